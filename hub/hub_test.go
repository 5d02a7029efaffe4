package hub_test

import (
	"fmt"
	"math"
	"strings"
	"testing"

	"hub/hub"
)

// The signatures that the document lists: another one would not compile.
var (
	_ func(string) (hub.Errno, int)                                = hub.CheckTopic
	_ func(string) (hub.Errno, int)                                = hub.CheckFilter
	_ func(string, string) (bool, hub.Errno, int)                  = hub.Match
	_ func() *hub.Table                                            = hub.NewTable
	_ func(*hub.Table, string, int) (hub.Errno, int)               = (*hub.Table).Add
	_ func(*hub.Table, string, int) (hub.Errno, int)               = (*hub.Table).Drop
	_ func(*hub.Table, string) ([]int, hub.Errno, int)             = (*hub.Table).Route
	_ func(*hub.Table) string                                      = (*hub.Table).Code
	_ func(string) (hub.Errno, int)                                = hub.CheckCode
	_ func(string, string) ([]int, hub.Errno, int)                 = hub.Walk
	_ func() *hub.Hub                                              = hub.NewHub
	_ func(*hub.Hub, int) hub.Errno                                = (*hub.Hub).Connect
	_ func(*hub.Hub, int) hub.Errno                                = (*hub.Hub).Leave
	_ func(*hub.Hub, int) hub.Errno                                = (*hub.Hub).Forget
	_ func(*hub.Hub, int, string) (hub.Errno, int)                 = (*hub.Hub).Subscribe
	_ func(*hub.Hub, int, string) (hub.Errno, int)                 = (*hub.Hub).Unsubscribe
	_ func(*hub.Hub, string, string, bool) ([]int, hub.Errno, int) = (*hub.Hub).Publish
	_ func(*hub.Hub, int) (string, hub.Errno)                      = (*hub.Hub).Take
)

func TestErrnoNumbers(t *testing.T) {
	names := []hub.Errno{
		hub.OK, hub.ErrLong, hub.ErrTopic, hub.ErrFilter, hub.ErrWho, hub.ErrTwice,
		hub.ErrNone, hub.ErrFull, hub.ErrCode, hub.ErrAway, hub.ErrPayload,
	}
	for number, name := range names {
		if int(name) != number {
			t.Errorf("Errno number %d is %d", number, name)
		}
	}
}

// wildTexts are texts that a caller would hardly mean.
func wildTexts() []string {
	wild := []string{
		"", "\x00", "\xff\xfe", "é", "a\n", " ", ";", ",>000", "*000", "A;B", ";;", "$", "$share/", "$share/g/",
		strings.Repeat("/", 24), strings.Repeat("/", 25), strings.Repeat("+/", 12), strings.Repeat("#", 24),
		strings.Repeat("a", 1<<20), strings.Repeat(";", 40001), strings.Repeat("\xff", 1<<20),
	}
	for c := range 256 {
		wild = append(wild, string([]byte{byte(c)}))
	}
	return wild
}

func TestNoCallPanics(t *testing.T) {
	numbers := []int{math.MinInt, -1, 0, 5, 6, 15, 16, 1000, math.MaxInt}
	table := hub.NewTable()
	h := hub.NewHub()
	for _, text := range wildTexts() {
		hub.CheckTopic(text)
		hub.CheckFilter(text)
		hub.CheckCode(text)
		table.Route(text)
		for _, other := range []string{"", "a", "#", "$", "\xff", text} {
			hub.Match(text, other)
			hub.Match(other, text)
			hub.Walk(text, other)
			hub.Walk(other, text)
			h.Publish(text, other, true)
			h.Publish(other, text, false)
		}
		for _, number := range numbers {
			table.Add(text, number)
			h.Connect(number)
			h.Subscribe(number, text)
			h.Take(number)
			h.Leave(number)
			h.Unsubscribe(number, text)
			h.Forget(number)
			table.Drop(text, number)
		}
		table.Code()
	}
}

func TestTooLongComesFirst(t *testing.T) {
	for _, length := range []int{25, 26, 1000, 1 << 20} {
		for _, c := range []string{"a", "/", "+", "#", "A", "\xff"} {
			long := strings.Repeat(c, length)
			if err, place := hub.CheckTopic(long); err != hub.ErrLong || place != 0 {
				t.Errorf("P1: CheckTopic of %d %q = %d %d", length, c, err, place)
			}
			if err, place := hub.CheckFilter(long); err != hub.ErrLong || place != 0 {
				t.Errorf("P1: CheckFilter of %d %q = %d %d", length, c, err, place)
			}
			for _, other := range []string{"", "a", "A", "##", long} {
				tooLongMatch(t, long, other)
				tooLongMatch(t, other, long)
			}
		}
	}
}

func TestTooLongComesFirstOfTables(t *testing.T) {
	table := tableOf(t, []oraclePair{{"#", 0}})
	for _, length := range []int{25, 26, 1000, 1 << 20} {
		for _, c := range []string{"a", "/", "+", "#", "A", ";", "\xff"} {
			long := strings.Repeat(c, length)
			for _, who := range []int{math.MinInt, -1, 0, 15, 16, math.MaxInt} {
				if err, place := table.Add(long, who); err != hub.ErrLong || place != 0 {
					t.Errorf("P1: Add of %d %q = %d %d", length, c, err, place)
				}
				if err, place := table.Drop(long, who); err != hub.ErrLong || place != 0 {
					t.Errorf("P1: Drop of %d %q = %d %d", length, c, err, place)
				}
			}
			if got, err, place := table.Route(long); len(got) != 0 || err != hub.ErrLong || place != 0 {
				t.Errorf("P1: Route of %d %q = %v %d %d", length, c, got, err, place)
			}
			for _, code := range []string{"", ";", "*000;", "A", "x;", strings.Repeat(";", 40001)} {
				if got, err, place := hub.Walk(code, long); len(got) != 0 || err != hub.ErrLong || place != 0 {
					t.Errorf("P1: Walk(%.20q) of %d %q = %v %d %d", code, length, c, got, err, place)
				}
			}
		}
	}
}

func TestTooLongComesFirstOfHubs(t *testing.T) {
	p := play(t, 0)
	p.subscribe(0, "#")
	for _, length := range []int{25, 26, 1000, 1 << 20} {
		for _, c := range []string{"a", "/", "+", "#", "A", "\xff"} {
			long := strings.Repeat(c, length)
			for _, client := range []int{0, 1} {
				p.subscribeFails(client, long, hub.ErrLong, 0)
				p.subscribeFails(client, "$share/g/"+long, hub.ErrLong, 0)
				p.unsubscribeFails(client, long, hub.ErrLong, 0)
				p.unsubscribeFails(client, "$share/g/"+long, hub.ErrLong, 0)
			}
			for _, payload := range []string{"", "x", long} {
				p.publishFails(long, payload, false, hub.ErrLong, 0)
				p.publishFails(long, payload, true, hub.ErrLong, 0)
			}
		}
	}
	p.take(0)
}

func tooLongMatch(t *testing.T, f string, topic string) {
	if got, err, place := hub.Match(f, topic); got || err != hub.ErrLong || place != 0 {
		t.Errorf("P1: Match(%.30q, %.30q) = %v %d %d", f, topic, got, err, place)
	}
}

// A call of a greater length must not take more time than one of a small one:
// this many calls would not end in time, were the bytes looked at.
func TestTooLongIsFoundByLength(t *testing.T) {
	long := strings.Repeat("a", 1<<26)
	table := hub.NewTable()
	h := hub.NewHub()
	h.Connect(0)
	share := "$share/" + long
	for range 10000 {
		hub.CheckTopic(long)
		hub.CheckFilter(long)
		hub.Match(long, long)
		hub.CheckCode(long)
		hub.Walk(long, "a")
		hub.Walk(";", long)
		table.Add(long, 0)
		table.Drop(long, 0)
		table.Route(long)
		h.Subscribe(0, long)
		h.Subscribe(0, share)
		h.Unsubscribe(0, share)
		h.Publish(long, "x", true)
		h.Publish("a", long, true)
	}
}

type answer struct {
	got   bool
	list  string
	err   hub.Errno
	place int
}

// answers runs the calls that are not of a table or a hub.
func answers(f string, t string) [5]answer {
	var all [5]answer
	all[0].err, all[0].place = hub.CheckTopic(t)
	all[1].err, all[1].place = hub.CheckFilter(f)
	all[2].got, all[2].err, all[2].place = hub.Match(f, t)
	code := "AB*000;C*001;" + f
	all[3].err, all[3].place = hub.CheckCode(code)
	list, err, place := hub.Walk(code, t)
	all[4] = answer{list: fmt.Sprint(list), err: err, place: place}
	return all
}

func TestAnswersHangOnArgumentsAlone(t *testing.T) {
	some := append(texts("a$/+#", 2), "A", "A*000", "A;", "*002")
	var first [][5]answer
	for _, f := range some {
		for _, topic := range some {
			first = append(first, answers(f, topic))
		}
	}
	for i := len(some) - 1; i >= 0; i-- {
		for j := len(some) - 1; j >= 0; j-- {
			if answers(some[i], some[j]) != first[i*len(some)+j] {
				t.Errorf("P2: %q and %q are answered differently the second time", some[i], some[j])
			}
		}
	}
}

func TestNewOnesAreThere(t *testing.T) {
	if hub.NewTable() == nil || hub.NewHub() == nil {
		t.Errorf("P2: NewTable or NewHub answers nil")
	}
}
