package hub_test

import (
	"fmt"
	"slices"
	"strings"
	"testing"

	"hub/hub"
)

type oraclePair struct {
	filter string
	who    int
}

// oracleRoute follows P6 by a set of who.
func oracleRoute(pairs []oraclePair, topic string) []int {
	found := map[int]bool{}
	for _, p := range pairs {
		if oracleMatch(p.filter, topic) {
			found[p.who] = true
		}
	}
	list := []int{}
	for who := range found {
		list = append(list, who)
	}
	slices.Sort(list)
	return list
}

// tableOf adds the pairs in their order.
func tableOf(t *testing.T, pairs []oraclePair) *hub.Table {
	t.Helper()
	b := hub.NewTable()
	for _, p := range pairs {
		if err, place := b.Add(p.filter, p.who); err != hub.OK || place != 0 {
			t.Fatalf("P5: Add(%q, %d) = %d %d", p.filter, p.who, err, place)
		}
	}
	return b
}

// someTopics has all short ones, with '$' and empty levels among them, and
// longer ones.
func someTopics() []string {
	topics := texts("ab$/", 3)[1:]
	return append(topics, "a/b/c", "a/b/a/b", "a/b/a/b/a", "a/b/a/b/a/b", "$a/b", "$a/b/a", "$a//b", "a//b",
		"////", "/////", "//////", strings.Repeat("/", 24), strings.Repeat("a", 24), "a/b//a/b", "a/$/b", "x/y/z/u/v/w")
}

// hasPairs tells whether a table routes as one of these pairs would, and has
// room for as many more.
func hasPairs(t *testing.T, what string, b *hub.Table, pairs []oraclePair) {
	t.Helper()
	for _, topic := range someTopics() {
		got, err, place := b.Route(topic)
		if want := oracleRoute(pairs, topic); !slices.Equal(got, want) || err != hub.OK || place != 0 {
			t.Fatalf("%s: Route(%q) = %v %d %d, want %v", what, topic, got, err, place, want)
		}
	}
	free := 0
	for ; free < 7; free++ {
		if err, _ := b.Add(fmt.Sprint("free", free), 7); err != hub.OK {
			break
		}
	}
	for i := range free {
		b.Drop(fmt.Sprint("free", i), 7)
	}
	if free != 6-len(pairs) {
		t.Fatalf("%s: there is room for %d pairs more, beside %d", what, free, len(pairs))
	}
}

func TestNewTableHasNoPair(t *testing.T) {
	hasPairs(t, "P5: a new table", hub.NewTable(), nil)
}

func TestAddErrors(t *testing.T) {
	long := strings.Repeat("#", 25)
	pairs := []oraclePair{{"a/+", 0}, {"a/+", 15}, {"#", 3}}
	b := tableOf(t, pairs)
	before := b.Code()
	for _, c := range []struct {
		filter string
		who    int
		err    hub.Errno
		place  int
	}{
		{long, 0, hub.ErrLong, 0},
		{long, 16, hub.ErrLong, 0},
		{"", 0, hub.ErrFilter, 0},
		{"", -1, hub.ErrFilter, 0},
		{"a/b+", 0, hub.ErrFilter, 3},
		{"a/#/b", 16, hub.ErrFilter, 3},
		{"a/b/c/d/e/f", 0, hub.ErrFilter, 9},
		{"a/+", -1, hub.ErrWho, 0},
		{"a/+", 16, hub.ErrWho, 0},
		{"b", -1 << 63, hub.ErrWho, 0},
		{"b", 1<<63 - 1, hub.ErrWho, 0},
		{"a/+", 0, hub.ErrTwice, 0},
		{"a/+", 15, hub.ErrTwice, 0},
		{"#", 3, hub.ErrTwice, 0},
	} {
		if err, place := b.Add(c.filter, c.who); err != c.err || place != c.place {
			t.Errorf("P5: Add(%q, %d) = %d %d, want %d %d", c.filter, c.who, err, place, c.err, c.place)
		}
		hasPairs(t, "P1: behind an error of Add", b, pairs)
		if b.Code() != before {
			t.Errorf("P1: Add(%q, %d) with an error has changed the table", c.filter, c.who)
		}
	}
}

func TestDropErrors(t *testing.T) {
	long := strings.Repeat("#", 25)
	pairs := []oraclePair{{"a/+", 0}, {"a/+", 15}, {"#", 3}}
	b := tableOf(t, pairs)
	before := b.Code()
	for _, c := range []struct {
		filter string
		who    int
		err    hub.Errno
		place  int
	}{
		{long, 0, hub.ErrLong, 0},
		{long, 16, hub.ErrLong, 0},
		{"", 0, hub.ErrFilter, 0},
		{"a/b+", 0, hub.ErrFilter, 3},
		{"a/#/b", -1, hub.ErrFilter, 3},
		{"a/+", -1, hub.ErrWho, 0},
		{"a/+", 16, hub.ErrWho, 0},
		{"b", -1 << 63, hub.ErrWho, 0},
		{"b", 1<<63 - 1, hub.ErrWho, 0},
		{"a/+", 3, hub.ErrNone, 0},
		{"#", 0, hub.ErrNone, 0},
		{"a/b", 0, hub.ErrNone, 0},
	} {
		if err, place := b.Drop(c.filter, c.who); err != c.err || place != c.place {
			t.Errorf("P5: Drop(%q, %d) = %d %d, want %d %d", c.filter, c.who, err, place, c.err, c.place)
		}
		hasPairs(t, "P1: behind an error of Drop", b, pairs)
		if b.Code() != before {
			t.Errorf("P1: Drop(%q, %d) with an error has changed the table", c.filter, c.who)
		}
	}
	if err, place := hub.NewTable().Drop("a", 0); err != hub.ErrNone || place != 0 {
		t.Errorf("P5: Drop of an empty table = %d %d", err, place)
	}
}

func TestFullTable(t *testing.T) {
	pairs := []oraclePair{{"a", 0}, {"a", 1}, {"b", 0}, {"b/#", 2}, {"+", 15}, {"#", 0}}
	b := tableOf(t, pairs)
	before := b.Code()
	for _, c := range []struct {
		filter string
		who    int
		err    hub.Errno
		place  int
	}{
		{"c", 0, hub.ErrFull, 0},
		{"a", 2, hub.ErrFull, 0},
		{"a", 1, hub.ErrTwice, 0},
		{"#", 0, hub.ErrTwice, 0},
		{"c", 16, hub.ErrWho, 0},
		{"c+", 0, hub.ErrFilter, 1},
	} {
		if err, place := b.Add(c.filter, c.who); err != c.err || place != c.place {
			t.Errorf("P5: Add(%q, %d) at a full table = %d %d, want %d %d", c.filter, c.who, err, place, c.err, c.place)
		}
		hasPairs(t, "P1: behind an error of a full table", b, pairs)
		if b.Code() != before {
			t.Errorf("P1: Add(%q, %d) has changed a full table", c.filter, c.who)
		}
	}
	if err, _ := b.Drop("x", 0); err != hub.ErrNone {
		t.Errorf("P5: Drop of no pair of a full table = %d, want ErrNone", err)
	}
	if err, _ := b.Drop("b", 0); err != hub.OK {
		t.Errorf("P5: Drop at a full table = %d", err)
	}
	if err, _ := b.Add("a", 2); err != hub.OK {
		t.Errorf("P5: Add behind a Drop of a full table = %d", err)
	}
	if err, _ := b.Add("a", 3); err != hub.ErrFull {
		t.Errorf("P5: Add at a table that is full again = %d", err)
	}
}

func TestDropTakesOnePairAlone(t *testing.T) {
	pairs := []oraclePair{{"a/+", 0}, {"a/+", 1}, {"a/b", 0}, {"a/#", 1}, {"#", 15}, {"$a/#", 0}}
	for at := range pairs {
		b := tableOf(t, pairs)
		if err, place := b.Drop(pairs[at].filter, pairs[at].who); err != hub.OK || place != 0 {
			t.Fatalf("P5: Drop(%v) = %d %d", pairs[at], err, place)
		}
		left := slices.Delete(slices.Clone(pairs), at, at+1)
		hasPairs(t, fmt.Sprint("P5: without ", pairs[at]), b, left)
		if err, _ := b.Drop(pairs[at].filter, pairs[at].who); err != hub.ErrNone {
			t.Errorf("P5: the second Drop(%v) = %d, want ErrNone", pairs[at], err)
		}
		if err, _ := b.Add(pairs[at].filter, pairs[at].who); err != hub.OK {
			t.Errorf("P5: Add(%v) behind its Drop = %d", pairs[at], err)
		}
		hasPairs(t, fmt.Sprint("P5: again with ", pairs[at]), b, pairs)
	}
}

func TestRouteCases(t *testing.T) {
	b := tableOf(t, []oraclePair{{"#", 15}, {"a/b", 7}, {"a/#", 7}, {"+/b", 0}, {"a/+", 3}, {"$a/+", 9}})
	for _, c := range []struct {
		topic string
		want  string
	}{
		{"a/b", "[0 3 7 15]"},
		{"a", "[7 15]"},
		{"a/", "[3 7 15]"},
		{"a/b/", "[7 15]"},
		{"/b", "[0 15]"},
		{"b", "[15]"},
		{"$a/b", "[9]"},
		{"$a/", "[9]"},
		{"$a", "[]"},
		{"$b/b", "[]"},
		{strings.Repeat("/", 24), "[15]"},
	} {
		got, err, place := b.Route(c.topic)
		if fmt.Sprint(got) != c.want || err != hub.OK || place != 0 {
			t.Errorf("P6: Route(%q) = %v %d %d, want %s 0 0", c.topic, got, err, place, c.want)
		}
	}
}

func TestRouteEachWho(t *testing.T) {
	for who := range 16 {
		b := tableOf(t, []oraclePair{{"a", who}, {"#", who}, {"+", who}, {"$a", who}})
		for _, topic := range []string{"a", "b", "$a"} {
			if got, err, _ := b.Route(topic); !slices.Equal(got, []int{who}) || err != hub.OK {
				t.Errorf("P6: Route(%q) with who %d = %v %d", topic, who, got, err)
			}
		}
	}
}

func TestRouteErrors(t *testing.T) {
	b := tableOf(t, []oraclePair{{"#", 1}, {"+/#", 2}})
	for _, c := range []checkCase{
		{"", hub.ErrTopic, 0},
		{"+", hub.ErrTopic, 0},
		{"a/#", hub.ErrTopic, 2},
		{"ab\x00", hub.ErrTopic, 2},
		{strings.Repeat("a", 23) + "A", hub.ErrTopic, 23},
		{strings.Repeat("a", 25), hub.ErrLong, 0},
		{strings.Repeat("+", 25), hub.ErrLong, 0},
	} {
		got, err, place := b.Route(c.text)
		if len(got) != 0 || err != c.err || place != c.place {
			t.Errorf("P6: Route(%q) = %v %d %d, want [] %d %d", c.text, got, err, place, c.err, c.place)
		}
	}
}

func TestTablesShareNothing(t *testing.T) {
	first := []oraclePair{{"a", 0}, {"#", 1}}
	second := []oraclePair{{"b", 2}, {"$a/#", 3}, {"a", 0}}
	one := hub.NewTable()
	other := hub.NewTable()
	for i := range 3 {
		if i < len(first) {
			one.Add(first[i].filter, first[i].who)
		}
		other.Add(second[i].filter, second[i].who)
	}
	hasPairs(t, "P2: one table", one, first)
	hasPairs(t, "P2: the other table", other, second)
	if one.Code() != tableOf(t, first).Code() || other.Code() != tableOf(t, second).Code() {
		t.Errorf("P2: a table's code hangs on another table")
	}
	other.Drop("a", 0)
	hasPairs(t, "P2: one table, behind the other's Drop", one, first)
	hasPairs(t, "P2: the other table, behind its Drop", other, second[:2])
}

func TestRoutedListIsTheCallers(t *testing.T) {
	pairs := []oraclePair{{"#", 0}, {"a", 1}, {"+", 2}}
	b := tableOf(t, pairs)
	kept, _, _ := b.Route("a")
	list, _, _ := b.Route("a")
	for i := range list {
		list[i] = -7
	}
	_ = append(list[:0], 9, 9, 9, 9, 9, 9)
	hasPairs(t, "P2: behind a change of a list that was answered", b, pairs)
	if !slices.Equal(kept, []int{0, 1, 2}) {
		t.Errorf("P2: two lists that were answered share memory: %v", kept)
	}
}
