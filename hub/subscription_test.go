package hub_test

import (
	"regexp"
	"strings"
	"testing"

	"hub/hub"
)

var shareForm = regexp.MustCompile(`(?s)^\$share/([a-z]+)/(.*)$`)

// oracleSplit answers a subscription's group ("", if it is not shared) and its
// filter.
func oracleSplit(s string) (string, string) {
	parts := shareForm.FindStringSubmatch(s)
	if parts == nil {
		return "", s
	}
	return parts[1], parts[2]
}

// wrongSubscriptions have a filter that is none, or are too long.
var wrongSubscriptions = []checkCase{
	{strings.Repeat("a", 25), hub.ErrLong, 0},
	{strings.Repeat("#", 25), hub.ErrLong, 0},
	{"$share/g/" + strings.Repeat("a", 16), hub.ErrLong, 0},
	{"$share/g/" + strings.Repeat("#", 16), hub.ErrLong, 0},
	{"$share/" + strings.Repeat("g", 17) + "/", hub.ErrLong, 0},
	{"", hub.ErrFilter, 0},
	{"a#", hub.ErrFilter, 1},
	{"a/+b", hub.ErrFilter, 3},
	{"A", hub.ErrFilter, 0},
	{"a/b/c/d/e/f", hub.ErrFilter, 9},
	{"$share/g/", hub.ErrFilter, 9},
	{"$share/group/", hub.ErrFilter, 13},
	{"$share/" + strings.Repeat("g", 16) + "/", hub.ErrFilter, 24},
	{"$share/g/#a", hub.ErrFilter, 10},
	{"$share/g/A", hub.ErrFilter, 9},
	{"$share/az/a/#/", hub.ErrFilter, 13},
	{"$share/g/a/b/c/d/e/f", hub.ErrFilter, 18},
	{"$share/g/\n", hub.ErrFilter, 9},
	{"$share/g/aaaaaaaaaaaaaaA", hub.ErrFilter, 23},
	// What is not shared is all filter: it begins at the text's first byte.
	{"$share/G/a", hub.ErrFilter, 7},
	{"$share/gG/", hub.ErrFilter, 8},
	{"$share/+/a+", hub.ErrFilter, 10},
	{"$share/#/a", hub.ErrFilter, 8},
	{"$share/g1/a/b/c/d", hub.ErrFilter, 15},
	{"$share//a/b/c/d", hub.ErrFilter, 13},
	{"$shares/g/a#", hub.ErrFilter, 11},
	{"$shar/g/a#", hub.ErrFilter, 9},
	{"/$share/g/#a", hub.ErrFilter, 11},
	{"$share+g/a", hub.ErrFilter, 6},
	{"$SHARE/g/a", hub.ErrFilter, 1},
}

func TestSubscribeWrongTexts(t *testing.T) {
	p := play(t, 0)
	p.subscribe(0, "#", "$share/g/+")
	for _, c := range wrongSubscriptions {
		p.subscribeFails(0, c.text, c.err, c.place)
		p.unsubscribeFails(0, c.text, c.err, c.place)
		p.subscribeFails(1, c.text, c.err, c.place)
		p.unsubscribeFails(1, c.text, c.err, c.place)
		p.subscribeFails(6, c.text, hub.ErrWho, 0)
		p.unsubscribeFails(-1, c.text, hub.ErrWho, 0)
	}
	p.publish("a", "x", 0, 0)
	p.subscribe(0, "a", "b", "c", "d", "e", "f")
	p.subscribeFails(0, "g", hub.ErrFull, 0)
}

// Each short text, alone and behind what a shared one may begin with.
func TestSubscribeShortTexts(t *testing.T) {
	p := play(t, 0)
	for _, head := range []string{"", "$", "$share", "$share/", "$share/g", "$share/gh/", "$share/g/a/", "$share/g1/"} {
		for _, tail := range texts("ag/+#$G", 3) {
			s := head + tail
			_, filter := oracleSplit(s)
			err, place := oracleCheckFilter(filter)
			if err != hub.OK {
				place += len(s) - len(filter)
			}
			p.subscribeFails(0, s, err, place)
			if err == hub.OK {
				p.subscribeFails(0, s, hub.ErrTwice, 0)
			}
			p.unsubscribeFails(0, s, err, place)
		}
	}
}

func TestSubscribeErrorsInOrder(t *testing.T) {
	long := strings.Repeat("#", 25)
	p := play(t, 0, 1)
	p.subscribe(0, "a", "b", "$share/g/a")
	p.subscribe(1, "a", "b", "c", "d", "$share/g/a")
	p.leave(1)
	for _, client := range []int{-1, 6} {
		for _, s := range []string{long, "a#", "$share/g/", "a", "x"} {
			p.subscribeFails(client, s, hub.ErrWho, 0)
		}
	}
	for _, client := range []int{0, 1, 2} {
		p.subscribeFails(client, long, hub.ErrLong, 0)
		p.subscribeFails(client, "$share/g/"+long, hub.ErrLong, 0)
		p.subscribeFails(client, "ab#", hub.ErrFilter, 2)
		p.subscribeFails(client, "$share/g/", hub.ErrFilter, 9)
	}
	for _, s := range []string{"a", "$share/g/a", "x"} {
		p.subscribeFails(1, s, hub.ErrAway, 0)
		p.subscribeFails(2, s, hub.ErrAway, 0)
	}
	p.subscribeFails(0, "a", hub.ErrTwice, 0)
	p.subscribeFails(0, "$share/g/a", hub.ErrTwice, 0)
	p.subscribeFails(0, "x", hub.ErrFull, 0)
	p.subscribeFails(0, "$share/h/a", hub.ErrFull, 0)
	// With all these errors nothing has changed.
	p.publish("a", "x", 0, 0, 1)
	p.publish("x", "x")
	p.connect(1)
	p.unsubscribe(1, "a", "b", "c", "d", "$share/g/a")
	p.unsubscribe(0, "a", "b", "$share/g/a")
}

func TestUnsubscribeErrorsInOrder(t *testing.T) {
	long := strings.Repeat("#", 25)
	p := play(t, 0, 1)
	p.subscribe(0, "a", "$share/g/a")
	p.subscribe(1, "a", "b")
	p.leave(1)
	for _, client := range []int{-1, 6} {
		for _, s := range []string{long, "a#", "$share/g/", "a", "x"} {
			p.unsubscribeFails(client, s, hub.ErrWho, 0)
		}
	}
	for _, client := range []int{0, 1, 2} {
		p.unsubscribeFails(client, long, hub.ErrLong, 0)
		p.unsubscribeFails(client, "ab#", hub.ErrFilter, 2)
		p.unsubscribeFails(client, "$share/g/", hub.ErrFilter, 9)
	}
	for _, s := range []string{"a", "x"} {
		p.unsubscribeFails(1, s, hub.ErrAway, 0)
		p.unsubscribeFails(2, s, hub.ErrAway, 0)
	}
	for _, s := range []string{"b", "+", "#", "$share/h/a", "$share/g/b", "$share/g/+", "$share/g", "g/a"} {
		p.unsubscribeFails(0, s, hub.ErrNone, 0)
	}
	p.publish("a", "x", 0, 0, 1)
	p.publish("b", "x", 1)
}

func TestSubscribedTwice(t *testing.T) {
	p := play(t, 0, 1)
	for _, s := range []string{"a", "a/", "+", "$share/g/a", "$share/g/+", "$share/h/a", "$share/g"} {
		p.subscribe(0, s)
		p.subscribeFails(0, s, hub.ErrTwice, 0)
	}
	p.subscribe(1, "a")
	p.subscribeFails(1, "a", hub.ErrTwice, 0)
	p.unsubscribe(1, "a")
	p.unsubscribeFails(1, "a", hub.ErrNone, 0)
	p.subscribe(1, "a")
}

func TestSubscribedTwiceDeliversNoKept(t *testing.T) {
	p := play(t, 0)
	p.subscribe(0, "a")
	p.keep("a", "x", 0)
	p.take(0, "a=x")
	p.subscribeFails(0, "a", hub.ErrTwice, 0)
	p.take(0)
}

func TestFullHub(t *testing.T) {
	p := play(t, 0, 1, 2, 3, 4, 5)
	for client := range 6 {
		p.subscribe(client, "a")
	}
	p.subscribe(3, "$share/g/a", "$share/g/b")
	p.keep("z", "k")
	p.subscribeFails(3, "z", hub.ErrFull, 0)
	p.subscribeFails(0, "$share/g/a", hub.ErrFull, 0)
	p.subscribeFails(3, "a", hub.ErrTwice, 0)
	p.take(3)
	p.unsubscribeFails(3, "z", hub.ErrNone, 0)
	p.publish("a", "x", 0, 1, 2, 3, 3, 4, 5)
	p.unsubscribe(3, "$share/g/a")
	p.subscribe(0, "z")
	p.take(0, "a=x", "z=k")
	p.subscribeFails(3, "$share/g/a", hub.ErrFull, 0)
	p.publish("a", "y", 0, 1, 2, 3, 4, 5)
}

func TestUnsubscribeTakesOneAlone(t *testing.T) {
	all := []string{"a", "+", "a/#", "$share/g/a", "$share/h/a", "$share/g/+"}
	for at, s := range all {
		p := play(t, 0, 1)
		p.subscribe(1, "a", "$share/g/z")
		p.subscribe(0, all...)
		p.unsubscribe(0, s)
		for i, other := range all {
			if i != at {
				p.subscribeFails(0, other, hub.ErrTwice, 0)
			}
		}
		p.subscribeFails(1, "a", hub.ErrTwice, 0)
		p.unsubscribeFails(0, s, hub.ErrNone, 0)
		p.subscribe(0, s)
		p.subscribeFails(0, "z", hub.ErrFull, 0)
	}
}

func TestUnsubscribedGetsNoMore(t *testing.T) {
	p := play(t, 0, 1)
	p.subscribe(0, "a", "$share/g/b")
	p.subscribe(1, "a")
	p.publish("a", "1", 0, 1)
	p.publish("b", "1", 0)
	p.unsubscribe(0, "a", "$share/g/b")
	p.publish("a", "2", 1)
	p.publish("b", "2")
	// What is in the queue stays there.
	p.take(0, "a=1", "b=1")
	p.take(1, "a=1", "a=2")
}

// A text that begins like a shared one, and is none, is a filter like others:
// it is matched as a whole, and kept messages come to who has it.
func TestNotQuiteShared(t *testing.T) {
	for _, s := range []string{"$share/g", "$share/", "$share", "$share//a", "$share/g1/a", "$share/1/a", "$share/$/a",
		"$share/g$/a", "$shares/g/a", "$shar/g/a", "$/share/g/a", "$share//", "a$share/g/a"} {
		p := play(t, 0, 1)
		p.keep(s, "k")
		p.subscribe(0, s)
		p.subscribe(1, s)
		p.take(0, s+"=k")
		p.publish(s, "x", 0, 1)
		p.publish("a", "y")
		p.publish("$share/g/a", "y")
		p.take(1, s+"=k", s+"=x")
	}
	p := play(t, 0)
	p.subscribe(0, "$share/+/a", "$share/#")
	p.publish("$share/g/a", "x", 0)
	p.publish("a", "y")
	p.take(0, "$share/g/a=x")
}

// A shared subscription's filter is what stands behind the group alone: it has
// levels of its own, and '$' at its beginning counts.
func TestSharedFilters(t *testing.T) {
	for _, c := range []struct {
		filter  string
		matches []string
		others  []string
	}{
		{"a", []string{"a"}, []string{"$share/g/a", "g/a", "b", "a/"}},
		{"a/b/c/d/e", []string{"a/b/c/d/e"}, []string{"a/b/c/d", "a/b/c/d/e/f"}},
		{"#", []string{"a", "/", "a/b/c/d/e/f"}, []string{"$a", "$share/g/a", "$share/g/"}},
		{"+", []string{"a"}, []string{"$a", "a/b"}},
		{"$a/#", []string{"$a", "$a/b"}, []string{"a"}},
		{"/", []string{"/"}, []string{"a", "//"}},
		{"$share/h/a", []string{"$share/h/a"}, []string{"a", "h/a"}},
		{"aaaaaaaaaaaaaaa", []string{"aaaaaaaaaaaaaaa"}, []string{"aaaaaaaaaaaaaa"}},
	} {
		p := play(t, 0)
		p.subscribe(0, "$share/g/"+c.filter)
		for _, topic := range c.matches {
			p.publish(topic, "x", 0)
			p.take(0, topic+"=x")
		}
		for _, topic := range c.others {
			p.publish(topic, "x")
			p.take(0)
		}
	}
	p := play(t, 0)
	p.subscribe(0, "$share/az/a", "$share/abcdefghijklmno/b")
	p.publish("a", "x", 0)
	p.publish("b", "x", 0)
}

func TestKeptComeInOrderOfTopics(t *testing.T) {
	p := play(t, 0, 1, 2)
	p.keep("b", "2")
	p.keep("a/b", "1")
	p.keep("a", "0")
	p.keep("$b", "3")
	p.subscribe(0, "#")
	p.take(0, "a=0", "a/b=1", "b=2")
	p.subscribe(1, "$b", "a/+")
	p.take(1, "$b=3", "a/b=1")
	p.subscribe(2, "+/#")
	p.subscribe(2, "z")
	p.take(2, "a=0", "a/b=1", "b=2")
	// Whoever had it already gets nothing by another's Subscribe.
	p.take(0)
	p.take(1)
}

func TestKeptOrderIsThatOfBytes(t *testing.T) {
	order := []string{"$", "/", "0", "00", "0a", "a", "a$", "a/", "a//", "a/b", "a0", "aa", "ab", "b"}
	for low := range order {
		for high := low + 1; high < len(order); high++ {
			for _, first := range []int{low, high} {
				p := play(t, 0)
				p.keep("c", "c")
				p.keep(order[first], "1")
				p.keep(order[low+high-first], "2")
				p.keep("zz/z", "z")
				p.subscribe(0, "#")
				var want []string
				for _, at := range []int{low, high} {
					payload := "1"
					if at != first {
						payload = "2"
					}
					if order[at] != "$" {
						want = append(want, order[at]+"="+payload)
					}
				}
				want = append(want, "c=c", "zz/z=z")
				p.take(0, want[:3]...)
			}
		}
	}
}

func TestKeptFillTheQueueAlone(t *testing.T) {
	p := play(t, 0)
	p.keep("d", "4")
	p.keep("c", "3")
	p.keep("b", "2")
	p.keep("a", "1")
	p.subscribe(0, "#")
	p.take(0, "a=1", "b=2", "c=3")
	p.subscribe(0, "d")
	p.subscribe(0, "+")
	p.take(0, "d=4", "a=1", "b=2")
	// The kept ones stay kept.
	p.subscribe(0, "c", "+/#")
	p.take(0, "c=3", "a=1", "b=2")
}

func TestKeptComeBehindTheQueue(t *testing.T) {
	p := play(t, 0)
	p.keep("a", "k")
	p.subscribe(0, "b")
	p.publish("b", "x", 0)
	p.subscribe(0, "a")
	p.publish("b", "y", 0)
	p.take(0, "b=x", "a=k", "b=y")
}

func TestKeptComeByNoSharedSubscription(t *testing.T) {
	p := play(t, 0, 1)
	p.keep("a", "k")
	p.subscribe(0, "$share/g/a", "$share/g/#")
	p.take(0)
	p.subscribe(0, "a")
	p.take(0, "a=k")
	p.subscribe(1, "$share/g/a")
	p.take(1)
	// And no turn was taken by them.
	p.publish("a", "x", 0, 0, 0)
}

func TestKeptComeAgainWithANewSubscription(t *testing.T) {
	p := play(t, 0)
	p.keep("a", "k")
	for range 3 {
		p.subscribe(0, "a")
		p.take(0, "a=k")
		p.unsubscribe(0, "a")
		p.take(0)
	}
}
