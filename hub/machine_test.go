package hub_test

import (
	"fmt"
	"math/rand"
	"slices"
	"strings"
	"testing"

	"hub/hub"
)

// otherLevel is one that no filter of these tests names.
const otherLevel = "zzzz"

// levelsIn answers all levels that the states' edges name, and one other: a
// row of levels is walked alike if its levels are these.
func levelsIn(all []*oracleState) []string {
	levels := []string{otherLevel}
	for _, s := range all {
		levels = append(levels, s.levels...)
	}
	slices.Sort(levels)
	return slices.Compact(levels)
}

// classes numbers the states so that two have the same number just if no row
// of levels is answered differently by them. The last number is that of
// nowhere, where every row is answered by nobody.
func classes(all []*oracleState) []int {
	levels := levelsIn(all)
	class := make([]int, len(all)+1)
	count := 0
	for {
		seen := map[string]int{}
		next := make([]int, len(class))
		for i := range class {
			key := fmt.Sprint(class[i])
			if i < len(all) {
				key += fmt.Sprint(all[i].answer)
			} else {
				key += "[]"
			}
			for _, level := range levels {
				to := -1
				if i < len(all) {
					to = all[i].next(level)
				}
				if to < 0 {
					to = len(all)
				}
				key += fmt.Sprint(" ", class[to])
			}
			if _, ok := seen[key]; !ok {
				seen[key] = len(seen)
			}
			next[i] = seen[key]
		}
		class = next
		if len(seen) == count {
			return class
		}
		count = len(seen)
	}
}

// reached tells of each state whether edges lead to it from 0 or 1.
func reached(all []*oracleState) []bool {
	found := make([]bool, len(all))
	var visit func(int)
	visit = func(i int) {
		if i < 0 || found[i] {
			return
		}
		found[i] = true
		visit(all[i].star)
		for _, to := range all[i].edges {
			visit(to)
		}
	}
	visit(0)
	visit(1)
	return found
}

// whyNotLeast tells in which of P9's ways code is not a least one, or "".
func whyNotLeast(code string) string {
	if err, place := hub.CheckCode(code); err != hub.OK || place != 0 {
		return fmt.Sprintf("CheckCode answers %d %d", err, place)
	}
	all := readOracleCode(code)
	found := reached(all)
	class := classes(all)
	nowhere := class[len(all)]
	first := map[int]int{}
	for i, s := range all {
		for level, to := range s.edges {
			if to == s.star {
				return fmt.Sprintf("state %d: the edge %q leads where * leads", i, level)
			}
		}
		if i < 2 {
			continue
		}
		if !found[i] {
			return fmt.Sprintf("state %d can't be come to", i)
		}
		if class[i] == nowhere {
			return fmt.Sprintf("from state %d one comes to no answer", i)
		}
		if twin, ok := first[class[i]]; ok {
			return fmt.Sprintf("states %d and %d answer alike", twin, i)
		}
		first[class[i]] = i
	}
	return ""
}

// The check itself is checked by codes that are not least in one way each.
func TestWhyNotLeast(t *testing.T) {
	for _, c := range []struct {
		code string
		want string
	}{
		{";", ""},
		{"*002;;A*002", ""},
		{",a>003;;B*002;AB*002", ""},
		{"A", "CheckCode"},
		{"*002;;A;B", "can't be come to"},
		{"*002;;A;B*003", "can't be come to"},
		{"*002;;A,a>003;", "comes to no answer"},
		{"*002;;A,a>003;*003", "comes to no answer"},
		{"*002;;A*003;A*002", "answer alike"},
		{",a>002*003;;A;A", "answer alike"},
		{",a>002*003;;A*004;A*005;B;B", "answer alike"},
		{",a>002,b>002*002;;A", "leads where * leads"},
		{";,$a>002*002;A", "leads where * leads"},
		{"*002;;A,a>002*002", "leads where * leads"},
	} {
		if got := whyNotLeast(c.code); !strings.Contains(got, c.want) || (c.want == "") != (got == "") {
			t.Errorf("whyNotLeast(%q) = %q, want %q", c.code, got, c.want)
		}
	}
}

// topicsFor makes topics that follow the filters' levels or leave them.
func topicsFor(pairs []oraclePair) []string {
	levels := []string{"", "a", "$a", otherLevel}
	topics := []string{}
	for _, p := range pairs {
		topic := strings.NewReplacer("+", "a", "#", "b/c").Replace(p.filter)
		bare := strings.TrimSuffix(strings.NewReplacer("+", "", "#", "").Replace(p.filter), "/")
		topics = append(topics, topic, topic+"/", topic+"/a", "/"+topic, bare, bare+"/", bare+"/$", "$"+topic)
		for _, level := range strings.Split(p.filter, "/") {
			if level != "+" && level != "#" {
				levels = append(levels, level)
			}
		}
	}
	slices.Sort(levels)
	levels = slices.Compact(levels)
	for _, a := range levels {
		topics = append(topics, a)
		for _, b := range levels {
			topics = append(topics, a+"/"+b)
			for _, c := range levels {
				topics = append(topics, a+"/"+b+"/"+c)
			}
		}
	}
	return slices.DeleteFunc(topics, func(topic string) bool {
		return topic == "" || len(topic) > 24
	})
}

// holdsP9 checks a table's code against its pairs.
func holdsP9(t *testing.T, b *hub.Table, pairs []oraclePair, topics []string) {
	t.Helper()
	code := b.Code()
	if why := whyNotLeast(code); why != "" {
		t.Fatalf("P9: the code %q of %v: %s", code, pairs, why)
	}
	for _, topic := range topics {
		routed, err, _ := b.Route(topic)
		want := oracleRoute(pairs, topic)
		if !slices.Equal(routed, want) || err != hub.OK {
			t.Fatalf("P6: Route(%q) of %v = %v %d, want %v", topic, pairs, routed, err, want)
		}
		walked, err, place := hub.Walk(code, topic)
		if !slices.Equal(walked, want) || err != hub.OK || place != 0 {
			t.Fatalf("P9: Walk(%q, %q) of %v = %v %d %d, want %v", code, topic, pairs, walked, err, place, want)
		}
	}
}

func TestCodeOfNamedTables(t *testing.T) {
	for _, pairs := range [][]oraclePair{
		{},
		{{"a", 0}},
		{{"/", 0}},
		{{"////", 15}},
		{{"+", 0}},
		{{"#", 0}},
		{{"#", 0}, {"#", 15}},
		{{"a/#", 0}, {"a", 0}, {"a/+", 0}, {"a/+/#", 0}},
		{{"#", 0}, {"+", 0}, {"+/#", 0}, {"+/+", 0}, {"a", 0}, {"a/b", 0}},
		{{"#", 0}, {"a", 1}, {"b", 1}, {"c", 0}},
		{{"a/b", 0}, {"c/b", 0}},
		{{"a/x/y", 0}, {"b/x/y", 0}, {"+/x/y", 0}},
		{{"a/x", 0}, {"b/+/x", 0}, {"c/+/+/x", 0}},
		{{"$a", 0}},
		{{"$a", 0}, {"#", 1}},
		{{"$a/+", 0}, {"+/+", 0}, {"a/+", 0}},
		{{"$a/#", 0}, {"$b/#", 0}, {"#", 0}},
		{{"$/#", 0}, {"/#", 1}, {"+/$", 2}, {"$/$", 3}},
		{{"a/#", 0}, {"$a/#", 0}, {"+/#", 1}},
		{{"a//b", 0}, {"a/+/b", 1}, {"+//+", 2}, {"//#", 3}, {"/+/#", 4}},
		{{"+/+/+/+/+", 0}, {"+/+/+/+/#", 1}, {"a/+/+/+/+", 2}, {"+/+/+/+/a", 3}},
		{{"a/b/c/d/e", 0}, {"a/b/c/d/+", 1}, {"a/b/c/d/#", 2}, {"a/b/c/d", 3}, {"a/b/c/#", 4}, {"+/b/+/d/#", 5}},
		{{"a/+/+/+/+", 0}, {"+/a/+/+/+", 1}, {"+/+/a/+/+", 2}, {"+/+/+/a/+", 3}, {"+/+/+/+/a", 4}, {"+/+/+/+/#", 5}},
		{{strings.Repeat("a", 24), 0}, {strings.Repeat("a", 23) + "b", 1}, {strings.Repeat("a", 22) + "/+", 2},
			{strings.Repeat("a", 22) + "/#", 3}, {strings.Repeat("a", 23) + "/", 4}, {"/" + strings.Repeat("$", 23), 5}},
	} {
		holdsP9(t, tableOf(t, pairs), pairs, append(topicsFor(pairs), someTopics()...))
	}
}

func TestCodeOfEmptyTable(t *testing.T) {
	b := hub.NewTable()
	b.Add("a/#", 1)
	b.Drop("a/#", 1)
	if got := b.Code(); got != hub.NewTable().Code() {
		t.Errorf("P9: an empty table's code hangs on what it had: %q", got)
	}
	holdsP9(t, b, nil, someTopics())
}

// All tables of few pairs over the short filters.
func TestCodeOfAllSmallTables(t *testing.T) {
	var filters []string
	for _, f := range texts("a$/+#", 3) {
		if oracleFilter(f) {
			filters = append(filters, f)
		}
	}
	topics := append(texts("a$/", 3)[1:], "b", "b/a", "a/b", "$b", "$/b", "a/a/a")
	for i, f := range filters {
		one := []oraclePair{{f, 3}}
		holdsP9(t, tableOf(t, one), one, topics)
		for _, g := range filters[i:] {
			for who := range 2 {
				two := []oraclePair{{f, 0}, {g, who}}
				if two[0] != two[1] {
					holdsP9(t, tableOf(t, two), two, topics)
				}
			}
		}
	}
}

func randomFilter(r *rand.Rand, levels []string) string {
	count := 1 + r.Intn(5)
	parts := make([]string, count)
	for i := range parts {
		parts[i] = levels[r.Intn(len(levels))]
	}
	if r.Intn(3) == 0 {
		parts[count-1] = "#"
	}
	return strings.Join(parts, "/")
}

func randomPairs(r *rand.Rand, levels []string) []oraclePair {
	var pairs []oraclePair
	people := 1 + r.Intn(6)
	for range r.Intn(7) {
		p := oraclePair{randomFilter(r, levels), r.Intn(people) * 3}
		if p.filter != "" && !slices.Contains(pairs, p) {
			pairs = append(pairs, p)
		}
	}
	return pairs
}

func randomTopics(r *rand.Rand, levels []string) []string {
	var topics []string
	for range 60 {
		parts := make([]string, 1+r.Intn(7))
		for i := range parts {
			parts[i] = levels[r.Intn(len(levels))]
		}
		if topic := strings.Join(parts, "/"); topic != "" && len(topic) <= 24 {
			topics = append(topics, topic)
		}
	}
	return topics
}

func TestCodeOfManyTables(t *testing.T) {
	r := rand.New(rand.NewSource(1))
	for _, levels := range [][]string{
		{"a", "+"},
		{"a", "b", "+", "+", "+"},
		{"a", "b", "", "$", "$a", "+", "+"},
		{"$a", "a", "+"},
		{"a", "b", "c", "aa", "", "+"},
	} {
		inTopics := append(slices.DeleteFunc(slices.Clone(levels), func(l string) bool { return l == "+" }), "zz", "$", "a", "")
		for range 300 {
			pairs := randomPairs(r, levels)
			b := tableOf(t, pairs)
			holdsP9(t, b, pairs, randomTopics(r, inTopics))
			sameHoweverTheyCame(t, r, b.Code(), pairs, levels)
		}
	}
}

// sameHoweverTheyCame makes the same table another way: in another order, with
// others in between, and some dropped and added again.
func sameHoweverTheyCame(t *testing.T, r *rand.Rand, code string, pairs []oraclePair, levels []string) {
	t.Helper()
	b := hub.NewTable()
	for i, at := range r.Perm(len(pairs)) {
		other := randomFilter(r, levels)
		if i < 5 && r.Intn(2) == 0 {
			b.Add(other, 1)
			b.Add(pairs[at].filter, pairs[at].who)
			b.Drop(other, 1)
		} else {
			b.Add(pairs[at].filter, pairs[at].who)
		}
		if again := pairs[r.Intn(len(pairs))]; r.Intn(2) == 0 {
			if err, _ := b.Drop(again.filter, again.who); err == hub.OK {
				b.Add(again.filter, again.who)
			}
		}
		b.Code()
	}
	if got := b.Code(); got != code {
		t.Fatalf("P9: the code of %v is %q, and %q, if they come another way", pairs, code, got)
	}
}

func TestCodeInEachOrder(t *testing.T) {
	pairs := []oraclePair{{"a/+/#", 3}, {"#", 0}, {"a/b/+", 0}, {"+/b", 3}, {"$a/#", 7}, {"a//b", 15}}
	code := tableOf(t, pairs).Code()
	var order func([]oraclePair, []oraclePair)
	order = func(done []oraclePair, left []oraclePair) {
		if len(left) == 0 {
			if got := tableOf(t, done).Code(); got != code {
				t.Fatalf("P9: in the order %v the code is %q, not %q", done, got, code)
			}
		}
		for i := range left {
			rest := slices.Delete(slices.Clone(left), i, i+1)
			order(append(slices.Clone(done), left[i]), rest)
		}
	}
	order(nil, pairs)
}

func TestCodeChangesNothing(t *testing.T) {
	pairs := []oraclePair{{"a/+", 0}, {"$a/#", 1}, {"#", 2}}
	b := tableOf(t, pairs)
	first := b.Code()
	hasPairs(t, "P9: behind Code", b, pairs)
	if b.Code() != first {
		t.Errorf("P9: the second Code answers another text")
	}
}
