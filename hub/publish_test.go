package hub_test

import (
	"slices"
	"strings"
	"testing"

	"hub/hub"
)

func TestPublishErrorsInOrder(t *testing.T) {
	long := strings.Repeat("+", 25)
	p := play(t, 0, 1, 2)
	p.keep("a", "1")
	p.keep("b", "2")
	p.keep("c", "3")
	p.keep("d", "4")
	p.subscribe(0, "e/#", "$share/g/e")
	p.subscribe(1, "$share/g/e")
	for _, payload := range []string{"", "x", "12345678", "123456789", strings.Repeat("x", 1000)} {
		for _, keep := range []bool{false, true} {
			p.publishFails(long, payload, keep, hub.ErrLong, 0)
			p.publishFails(strings.Repeat("e", 25), payload, keep, hub.ErrLong, 0)
			p.publishFails("", payload, keep, hub.ErrTopic, 0)
			p.publishFails("+", payload, keep, hub.ErrTopic, 0)
			p.publishFails("e/#", payload, keep, hub.ErrTopic, 2)
			p.publishFails("e/\xff", payload, keep, hub.ErrTopic, 2)
			p.publishFails(strings.Repeat("e", 23)+"E", payload, keep, hub.ErrTopic, 23)
		}
	}
	for _, topic := range []string{"a", "e", "$e"} {
		for _, keep := range []bool{false, true} {
			p.publishFails(topic, "123456789", keep, hub.ErrPayload, 0)
			p.publishFails(topic, strings.Repeat("\xff", 1000), keep, hub.ErrPayload, 0)
		}
	}
	for _, topic := range []string{"e", "e/e", "$e", "aa", "e/"} {
		p.publishFails(topic, "x", true, hub.ErrFull, 0)
		p.publishFails(topic, "12345678", true, hub.ErrFull, 0)
	}
	// With all these errors nothing has changed.
	p.take(0)
	p.take(1)
	p.publish("e", "x", 0, 0)
	p.subscribe(2, "a", "b", "c")
	p.take(2, "a=1", "b=2", "c=3")
	p.subscribe(2, "d", "$e")
	p.take(2, "d=4")
}

func TestPayloadBounds(t *testing.T) {
	p := play(t, 0)
	p.subscribe(0, "a")
	for length := range 9 {
		payload := strings.Repeat("x", length)
		p.publish("a", payload, 0)
		p.keep("a", payload, 0)
		p.take(0, "a="+payload, "a="+payload)
	}
	for length := 9; length < 20; length++ {
		p.publishFails("a", strings.Repeat("x", length), false, hub.ErrPayload, 0)
		p.publishFails("a", strings.Repeat("x", length), true, hub.ErrPayload, 0)
	}
}

func TestPublishIsNotKeptUnlessAsked(t *testing.T) {
	p := play(t, 0)
	for _, topic := range []string{"a", "b", "c", "d", "e"} {
		p.publish(topic, "x")
	}
	p.keep("a", "k")
	p.publish("a", "other")
	p.publish("a", "")
	p.subscribe(0, "#")
	p.take(0, "a=k")
}

func TestFullOfKept(t *testing.T) {
	p := play(t, 0)
	p.keep("a", "1")
	p.keep("b", "2")
	p.keep("c", "3")
	p.keep("d", "4")
	p.publishFails("e", "5", true, hub.ErrFull, 0)
	// One that is not kept, one that clears nothing, and one that takes
	// another's place need no room.
	p.publish("e", "5")
	p.keep("e", "")
	p.keep("b", "two")
	p.publishFails("e", "5", true, hub.ErrFull, 0)
	p.subscribe(0, "+")
	p.take(0, "a=1", "b=two", "c=3")
	p.subscribe(0, "d", "e")
	p.take(0, "d=4")
	p.keep("c", "", 0)
	p.take(0, "c=")
	p.keep("e", "5", 0)
	p.publishFails("c", "3", true, hub.ErrFull, 0)
}

// A client that has two subscriptions that match gets a message once.
func TestPublishOnceToEach(t *testing.T) {
	p := play(t, 0, 1, 2)
	p.subscribe(2, "a/b", "a/+", "#", "+/b")
	p.subscribe(0, "a/#", "a/b")
	p.subscribe(1, "a")
	p.publish("a/b", "x", 0, 2)
	p.publish("a", "y", 0, 1, 2)
	p.publish("$a", "z")
	p.take(0, "a/b=x", "a=y")
	p.take(1, "a=y")
	p.take(2, "a/b=x", "a=y")
}

func TestPublishToOneAway(t *testing.T) {
	p := play(t, 0, 1)
	p.subscribe(0, "a")
	p.subscribe(1, "a")
	p.leave(0)
	p.publish("a", "x", 0, 1)
	p.leave(1)
	p.keep("a", "y", 0, 1)
	p.connect(0)
	p.take(0, "a=x", "a=y")
}

func TestPublishedListIsRising(t *testing.T) {
	for first := range 6 {
		p := play(t, 0, 1, 2, 3, 4, 5)
		for i := range 6 {
			p.subscribe((first+i*5)%6, "a")
		}
		p.subscribe(first, "$share/g/a")
		p.subscribe(5-first, "$share/h/#")
		want := append([]int{0, 1, 2, 3, 4, 5}, first, 5-first)
		slices.Sort(want)
		p.publish("a", "x", want...)
		for client := range 6 {
			all := slices.DeleteFunc(slices.Clone(want), func(other int) bool { return other != client })
			p.take(client, slices.Repeat([]string{"a=x"}, len(all))...)
		}
	}
}

func TestNobodyToPublishTo(t *testing.T) {
	p := play(t, 0)
	p.publish("a", "x")
	p.keep("a", "y")
	p.subscribe(0, "b", "$share/g/b", "#")
	p.take(0, "a=y")
	p.publish("$a", "z")
}

// Plain subscriptions and each group deliver apart from one another.
func TestSharedBesidePlain(t *testing.T) {
	p := play(t, 0, 1)
	p.subscribe(0, "a", "$share/g/a")
	p.subscribe(1, "$share/g/a", "+")
	p.publish("a", "1", 0, 0, 1)
	p.publish("a", "2", 0, 1, 1)
	p.take(0, "a=1", "a=1", "a=2")
	p.take(1, "a=1", "a=2", "a=2")
}

func TestSameGroupTwoFilters(t *testing.T) {
	p := play(t, 0, 1)
	p.subscribe(0, "$share/g/a", "$share/g/+")
	p.subscribe(1, "$share/g/a", "$share/g/+")
	p.publish("a", "1", 0, 0)
	p.publish("b", "2", 1)
	// The turns of the two are apart: 1's of "a", and 0's of "+".
	p.publish("a", "3", 0, 1)
	p.take(0, "a=1", "a=1", "a=3")
	p.take(1, "b=2", "a=3")
}

func TestTwoGroupsSameFilter(t *testing.T) {
	p := play(t, 0, 1, 2)
	p.subscribe(0, "$share/g/a", "$share/h/a")
	p.subscribe(1, "$share/g/a")
	p.subscribe(2, "$share/h/a")
	p.publish("a", "1", 0, 0)
	p.publish("a", "2", 1, 2)
	p.unsubscribe(0, "$share/g/a")
	p.publish("a", "3", 0, 1)
	p.publish("a", "4", 1, 2)
	p.unsubscribe(1, "$share/g/a")
	p.publish("a", "5", 0)
}

func TestGroupWithNobodyHere(t *testing.T) {
	p := play(t, 0, 1, 2)
	p.subscribe(0, "$share/g/a")
	p.subscribe(1, "$share/g/a")
	p.subscribe(2, "$share/h/a")
	p.leave(0, 1)
	p.publish("a", "1", 2)
	p.leave(2)
	p.publish("a", "2")
	p.connect(0, 1, 2)
	p.take(0)
	p.take(1)
	p.take(2, "a=1")
	// Nobody had a turn by what went to nobody.
	p.publish("a", "3", 0, 2)
	p.publish("a", "4", 1, 2)
}

func TestTurnsGoRound(t *testing.T) {
	p := play(t, 0, 1, 2, 3, 4, 5)
	order := []int{3, 0, 5, 1, 4, 2}
	for _, client := range order {
		p.subscribe(client, "$share/g/a")
	}
	for range 4 {
		for _, client := range order {
			p.publish("a", "x", client)
		}
		p.publish("b", "x")
	}
}

// Who subscribes later had no message so far, and is ahead of those who had.
func TestTurnOfNewOnes(t *testing.T) {
	p := play(t, 0, 1, 2, 3)
	p.subscribe(3, "$share/g/a")
	p.subscribe(1, "$share/g/a")
	p.publish("a", "1", 3)
	p.subscribe(2, "$share/g/a")
	p.subscribe(0, "$share/g/a")
	p.publish("a", "2", 1)
	p.publish("a", "3", 2)
	p.publish("a", "4", 0)
	p.publish("a", "5", 3)
	p.publish("a", "6", 1)
	p.publish("a", "7", 2)
}

func TestTurnBehindLeave(t *testing.T) {
	p := play(t, 0, 1, 2)
	for client := range 3 {
		p.subscribe(client, "$share/g/a")
	}
	p.leave(0)
	p.publish("a", "1", 1)
	p.publish("a", "2", 2)
	p.connect(0)
	p.publish("a", "3", 0)
	// 1 is the next, but away: its turn waits for it.
	p.leave(1)
	p.publish("a", "4", 2)
	p.publish("a", "5", 0)
	p.connect(1)
	p.publish("a", "6", 1)
	p.publish("a", "7", 2)
	// Leave and Connect do not make anybody new.
	p.leave(2)
	p.connect(2)
	p.publish("a", "8", 0)
	p.publish("a", "9", 1)
	p.publish("a", "10", 2)
}

func TestTurnBehindUnsubscribe(t *testing.T) {
	p := play(t, 0, 1, 2)
	for client := range 3 {
		p.subscribe(client, "$share/g/a")
	}
	// 0's new subscription is the youngest of those with no message.
	p.unsubscribe(0, "$share/g/a")
	p.subscribe(0, "$share/g/a")
	p.publish("a", "1", 1)
	p.publish("a", "2", 2)
	p.publish("a", "3", 0)
	// 0 was the last; by its new subscription none was delivered so far.
	p.unsubscribe(0, "$share/g/a")
	p.publish("a", "4", 1)
	p.subscribe(0, "$share/g/a")
	p.publish("a", "5", 0)
	p.publish("a", "6", 2)
	p.publish("a", "7", 1)
}

func TestTurnBehindForget(t *testing.T) {
	p := play(t, 0, 1, 2)
	for client := range 3 {
		p.subscribe(client, "$share/g/a")
	}
	p.publish("a", "1", 0)
	p.forget(0)
	p.publish("a", "2", 1)
	p.connect(0)
	p.publish("a", "3", 2)
	p.subscribe(0, "$share/g/a")
	p.publish("a", "4", 0)
	p.publish("a", "5", 1)
	p.forget(2)
	p.publish("a", "6", 0)
	p.publish("a", "7", 1)
}

// What comes by another subscription, plain or shared, takes no turn.
func TestTurnOfThatSubscriptionAlone(t *testing.T) {
	p := play(t, 0, 1)
	p.subscribe(0, "b", "$share/g/b", "$share/h/b", "$share/g/a")
	p.subscribe(1, "$share/g/a")
	p.publish("b", "1", 0, 0, 0)
	p.publish("a", "2", 0)
	p.publish("b", "3", 0, 0, 0)
	p.publish("a", "4", 1)
	p.publish("b", "5", 0, 0, 0)
	p.publish("a", "6", 0)
}

// A publication that fails takes no turn.
func TestTurnIsKeptByAnError(t *testing.T) {
	p := play(t, 0, 1)
	p.subscribe(0, "$share/g/#")
	p.subscribe(1, "$share/g/#")
	p.keep("a", "1", 0)
	p.keep("b", "2", 1)
	p.keep("c", "3", 0)
	p.publishFails("a", "123456789", false, hub.ErrPayload, 0)
	p.keep("d", "4", 1)
	p.publishFails("e", "5", true, hub.ErrFull, 0)
	p.publish("e", "6", 0)
}

func TestPublishedListIsTheCallers(t *testing.T) {
	p := play(t, 0, 1, 2)
	p.subscribe(0, "a", "$share/g/a")
	p.subscribe(1, "a", "$share/g/a")
	p.subscribe(2, "$share/g/a")
	kept, _, _ := p.h.Publish("a", "1", false)
	list, _, _ := p.h.Publish("a", "2", false)
	for i := range list {
		list[i] = -7
	}
	_ = append(list[:0], 9, 9, 9, 9, 9, 9, 9, 9)
	p.publish("a", "3", 0, 1, 2)
	p.publish("a", "4", 0, 0, 1)
	p.take(2, "a=3")
	if !slices.Equal(kept, []int{0, 0, 1}) {
		t.Errorf("P2: two lists that were answered share memory: %v", kept)
	}
}
