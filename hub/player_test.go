package hub_test

import (
	"fmt"
	"testing"

	"hub/hub"
)

// player makes calls of one hub and says what they should have answered.
type player struct {
	t *testing.T
	h *hub.Hub
}

// play begins with a new hub and these clients connected.
func play(t *testing.T, clients ...int) player {
	t.Helper()
	p := player{t, hub.NewHub()}
	p.connect(clients...)
	return p
}

func (p player) connect(clients ...int) {
	p.t.Helper()
	for _, client := range clients {
		if err := p.h.Connect(client); err != hub.OK {
			p.t.Errorf("Connect(%d) = %d", client, err)
		}
	}
}

func (p player) leave(clients ...int) {
	p.t.Helper()
	for _, client := range clients {
		if err := p.h.Leave(client); err != hub.OK {
			p.t.Errorf("Leave(%d) = %d", client, err)
		}
	}
}

func (p player) forget(clients ...int) {
	p.t.Helper()
	for _, client := range clients {
		if err := p.h.Forget(client); err != hub.OK {
			p.t.Errorf("Forget(%d) = %d", client, err)
		}
	}
}

func (p player) subscribe(client int, texts ...string) {
	p.t.Helper()
	for _, s := range texts {
		p.subscribeFails(client, s, hub.OK, 0)
	}
}

func (p player) subscribeFails(client int, s string, wantErr hub.Errno, wantPlace int) {
	p.t.Helper()
	if err, place := p.h.Subscribe(client, s); err != wantErr || place != wantPlace {
		p.t.Errorf("Subscribe(%d, %.40q) = %d %d, want %d %d", client, s, err, place, wantErr, wantPlace)
	}
}

func (p player) unsubscribe(client int, texts ...string) {
	p.t.Helper()
	for _, s := range texts {
		p.unsubscribeFails(client, s, hub.OK, 0)
	}
}

func (p player) unsubscribeFails(client int, s string, wantErr hub.Errno, wantPlace int) {
	p.t.Helper()
	if err, place := p.h.Unsubscribe(client, s); err != wantErr || place != wantPlace {
		p.t.Errorf("Unsubscribe(%d, %.40q) = %d %d, want %d %d", client, s, err, place, wantErr, wantPlace)
	}
}

// publish wants a message that is not kept to reach these clients.
func (p player) publish(topic string, payload string, clients ...int) {
	p.t.Helper()
	p.publishes(topic, payload, false, clients)
}

// keep wants a message that is kept to reach these clients.
func (p player) keep(topic string, payload string, clients ...int) {
	p.t.Helper()
	p.publishes(topic, payload, true, clients)
}

func (p player) publishes(topic string, payload string, keep bool, clients []int) {
	p.t.Helper()
	got, err, place := p.h.Publish(topic, payload, keep)
	if fmt.Sprint(got) != fmt.Sprint(clients) || err != hub.OK || place != 0 {
		p.t.Errorf("Publish(%q, %q, %v) = %v %d %d, want %v 0 0", topic, payload, keep, got, err, place, clients)
	}
}

func (p player) publishFails(topic string, payload string, keep bool, wantErr hub.Errno, wantPlace int) {
	p.t.Helper()
	got, err, place := p.h.Publish(topic, payload, keep)
	if len(got) != 0 || err != wantErr || place != wantPlace {
		p.t.Errorf("Publish(%.40q, %.40q, %v) = %v %d %d, want [] %d %d",
			topic, payload, keep, got, err, place, wantErr, wantPlace)
	}
}

// take wants these messages, in this order, from a client's queue, and no more
// of them behind these.
func (p player) take(client int, texts ...string) {
	p.t.Helper()
	for _, want := range texts {
		if got, err := p.h.Take(client); got != want || err != hub.OK {
			p.t.Errorf("Take(%d) = %q %d, want %q 0", client, got, err, want)
		}
	}
	p.takeFails(client, hub.ErrNone)
}

func (p player) takeFails(client int, want hub.Errno) {
	p.t.Helper()
	if got, err := p.h.Take(client); got != "" || err != want {
		p.t.Errorf("Take(%d) = %q %d, want \"\" %d", client, got, err, want)
	}
}
