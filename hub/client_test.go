package hub_test

import (
	"math"
	"testing"

	"hub/hub"
)

var noClients = []int{math.MinInt, -7, -1, 6, 7, 16, math.MaxInt}

func TestNewHubIsEmpty(t *testing.T) {
	p := play(t)
	for client := range 6 {
		p.takeFails(client, hub.ErrAway)
		p.subscribeFails(client, "a", hub.ErrAway, 0)
		p.unsubscribeFails(client, "a", hub.ErrAway, 0)
		if err := p.h.Leave(client); err != hub.ErrAway {
			t.Errorf("P10: Leave(%d) of a new hub = %d", client, err)
		}
		if err := p.h.Forget(client); err != hub.ErrNone {
			t.Errorf("P10: Forget(%d) of a new hub = %d", client, err)
		}
	}
	p.publish("a", "x")
	p.connect(0)
	p.subscribe(0, "#", "$share/g/#", "a", "b", "c", "d", "e", "f")
	p.take(0)
}

func TestNoClients(t *testing.T) {
	p := play(t, 0, 5)
	for _, client := range noClients {
		if err := p.h.Connect(client); err != hub.ErrWho {
			t.Errorf("P10: Connect(%d) = %d", client, err)
		}
		if err := p.h.Leave(client); err != hub.ErrWho {
			t.Errorf("P10: Leave(%d) = %d", client, err)
		}
		if err := p.h.Forget(client); err != hub.ErrWho {
			t.Errorf("P10: Forget(%d) = %d", client, err)
		}
		p.takeFails(client, hub.ErrWho)
		p.subscribeFails(client, "a", hub.ErrWho, 0)
		p.unsubscribeFails(client, "a", hub.ErrWho, 0)
	}
	p.publish("a", "x")
}

func TestEachClient(t *testing.T) {
	for client := range 6 {
		p := play(t, client)
		p.subscribe(client, "a")
		p.publish("a", "x", client)
		p.take(client, "a=x")
		for other := range 6 {
			if other != client {
				p.takeFails(other, hub.ErrAway)
			}
		}
	}
}

func TestConnectAgain(t *testing.T) {
	p := play(t, 0, 1)
	p.subscribe(0, "a", "$share/g/b")
	p.subscribe(1, "$share/g/b")
	p.publish("a", "x", 0)
	p.publish("b", "y", 0)
	p.connect(0, 0)
	p.subscribeFails(0, "a", hub.ErrTwice, 0)
	p.publish("b", "z", 1)
	p.take(0, "a=x", "b=y")
	p.leave(0)
	p.takeFails(0, hub.ErrAway)
}

func TestLeaveErrors(t *testing.T) {
	p := play(t, 0)
	p.subscribe(0, "a")
	p.leave(0)
	for range 2 {
		if err := p.h.Leave(0); err != hub.ErrAway {
			t.Errorf("P10: Leave of one that has left = %d", err)
		}
	}
	if err := p.h.Leave(1); err != hub.ErrAway {
		t.Errorf("P10: Leave of one that never came = %d", err)
	}
	p.forget(0)
	if err := p.h.Leave(0); err != hub.ErrAway {
		t.Errorf("P10: Leave of one that is forgotten = %d", err)
	}
}

func TestLeaveKeepsSubscriptionsAndQueue(t *testing.T) {
	p := play(t, 0, 1)
	p.subscribe(0, "a", "b/#", "$share/g/c")
	p.publish("a", "1", 0)
	p.leave(0)
	p.takeFails(0, hub.ErrAway)
	p.publish("a", "2", 0)
	p.publish("b", "3", 0)
	p.publish("c", "4")
	p.connect(0)
	for _, s := range []string{"a", "b/#", "$share/g/c"} {
		p.subscribeFails(0, s, hub.ErrTwice, 0)
	}
	p.take(0, "a=1", "a=2", "b=3")
	p.publish("c", "5", 0)
	p.take(0, "c=5")
	p.leave(0)
	p.connect(0)
	p.take(0)
}

func TestLeaveIsOfOneClientAlone(t *testing.T) {
	p := play(t, 0, 1, 2)
	p.leave(1)
	p.take(0)
	p.takeFails(1, hub.ErrAway)
	p.take(2)
}

func TestForgetErrors(t *testing.T) {
	p := play(t, 0)
	if err := p.h.Forget(1); err != hub.ErrNone {
		t.Errorf("P10: Forget of one that never came = %d", err)
	}
	p.forget(0)
	if err := p.h.Forget(0); err != hub.ErrNone {
		t.Errorf("P10: the second Forget = %d", err)
	}
	p.connect(0)
	p.forget(0)
}

func TestForgetOfOneThatLeft(t *testing.T) {
	p := play(t, 0)
	p.subscribe(0, "a")
	p.publish("a", "x", 0)
	p.leave(0)
	p.forget(0)
	p.publish("a", "y")
	p.connect(0)
	p.take(0)
}

func TestForgetClearsSubscriptionsAndQueue(t *testing.T) {
	p := play(t, 0, 1, 2)
	p.subscribe(0, "a", "#", "$share/g/a")
	p.subscribe(1, "a", "$share/g/a")
	p.subscribe(0, "a/#", "b", "c")
	p.publish("a", "x", 0, 0, 1)
	p.subscribeFails(2, "z", hub.ErrFull, 0)
	p.forget(0)
	p.takeFails(0, hub.ErrAway)
	p.subscribeFails(0, "a", hub.ErrAway, 0)
	p.publish("a", "y", 1, 1)
	p.connect(0)
	p.publish("b", "z")
	p.take(0)
	p.take(1, "a=x", "a=y", "a=y")
	for _, s := range []string{"a", "#", "$share/g/a", "a/#", "b", "c"} {
		p.unsubscribeFails(0, s, hub.ErrNone, 0)
	}
	// The hub has two subscriptions left, so there is room for six.
	p.subscribe(2, "a", "b", "c", "d", "e", "f")
	p.subscribeFails(2, "g", hub.ErrFull, 0)
}

func TestForgetKeepsKeptMessages(t *testing.T) {
	p := play(t, 0)
	p.subscribe(0, "a")
	p.keep("a", "x", 0)
	p.forget(0)
	p.connect(0)
	p.take(0)
	p.subscribe(0, "a")
	p.take(0, "a=x")
}

func TestTakeErrors(t *testing.T) {
	p := play(t, 0)
	p.takeFails(0, hub.ErrNone)
	p.takeFails(1, hub.ErrAway)
	p.subscribe(0, "a")
	p.publish("a", "x", 0)
	p.leave(0)
	p.takeFails(0, hub.ErrAway)
	p.connect(0)
	p.take(0, "a=x")
	p.leave(0)
	p.takeFails(0, hub.ErrAway)
}

func TestTakeInOrderOfDelivery(t *testing.T) {
	p := play(t, 0, 1)
	p.subscribe(0, "#", "$a")
	p.subscribe(1, "b/+")
	p.publish("c", "1", 0)
	p.publish("b/a", "2", 0, 1)
	p.publish("$a", "3", 0)
	p.take(1, "b/a=2")
	if got, err := p.h.Take(0); got != "c=1" || err != hub.OK {
		t.Errorf("P14: Take = %q %d", got, err)
	}
	p.publish("a", "4", 0)
	p.take(0, "b/a=2", "$a=3", "a=4")
}

func TestTakenTexts(t *testing.T) {
	p := play(t, 0)
	p.subscribe(0, "#", "$/#")
	for _, m := range [][2]string{
		{"a", ""}, {"/", "="}, {"a//b", "a=b"}, {"$/a", "12345678"}, {"abcdefghijklmnopqrstuvwx", "x"},
		{"a", "\x00\xff é\n"}, {"////////////////////////", "\xff\xff\xff\xff\xff\xff\xff\xff"},
	} {
		p.publish(m[0], m[1], 0)
		p.take(0, m[0]+"="+m[1])
	}
}

func TestFullQueue(t *testing.T) {
	p := play(t, 0, 1)
	p.subscribe(0, "a")
	p.subscribe(1, "a", "b")
	p.publish("a", "1", 0, 1)
	p.publish("a", "2", 0, 1)
	p.take(1, "a=1", "a=2")
	p.publish("a", "3", 0, 1)
	p.publish("a", "4", 0, 1)
	p.publish("a", "5", 0, 1)
	p.publish("b", "6", 1)
	p.take(0, "a=1", "a=2", "a=3")
	p.take(1, "a=3", "a=4", "a=5")
	p.publish("a", "7", 0, 1)
	p.take(0, "a=7")
	p.take(1, "a=7")
}

func TestFullQueueOfOneAway(t *testing.T) {
	p := play(t, 0)
	p.subscribe(0, "a")
	p.leave(0)
	for _, payload := range []string{"1", "2", "3", "4"} {
		p.publish("a", payload, 0)
	}
	p.connect(0)
	p.take(0, "a=1", "a=2", "a=3")
}

func TestHalfOfADeliveryIsLost(t *testing.T) {
	p := play(t, 0)
	p.subscribe(0, "a", "$share/g/a", "$share/h/a")
	p.publish("a", "1", 0, 0, 0)
	if got, err := p.h.Take(0); got != "a=1" || err != hub.OK {
		t.Errorf("P14: Take = %q %d", got, err)
	}
	p.publish("a", "2", 0, 0, 0)
	p.take(0, "a=1", "a=1", "a=2")
}

func TestLostMessageTakesATurn(t *testing.T) {
	p := play(t, 0, 1)
	p.subscribe(0, "b", "$share/g/a")
	p.subscribe(1, "$share/g/a")
	for range 3 {
		p.publish("b", "x", 0)
	}
	p.publish("a", "1", 0)
	p.publish("a", "2", 1)
	p.publish("a", "3", 0)
	p.publish("a", "4", 1)
	p.take(0, "b=x", "b=x", "b=x")
	p.take(1, "a=2", "a=4")
}
