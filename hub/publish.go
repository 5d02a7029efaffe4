package hub

const (
	maxKept    = 4
	maxPayload = 8
)

// Publish delivers a message (P12, P13).
func (h *Hub) Publish(t string, payload string, keep bool) ([]int, Errno, int) {
	err, place := CheckTopic(t)
	if err != OK {
		return nil, err, place
	}
	if len(payload) > maxPayload {
		return nil, ErrPayload, 0
	}
	m := message{topic: t, payload: payload}
	if keep {
		if !h.hasRoomFor(m) {
			return nil, ErrFull, 0
		}
		h.putKept(m)
	}
	return h.spread(m), OK, 0
}

// hasRoomFor tells whether a message may be kept: an empty one, which clears
// its topic, and one that takes another's place always may.
func (h *Hub) hasRoomFor(m message) bool {
	if m.payload == "" || len(h.kept) < maxKept {
		return true
	}
	for _, k := range h.kept {
		if k.topic == m.topic {
			return true
		}
	}
	return false
}

// putKept lays a message in by its topic, in the place of one of the same topic.
func (h *Hub) putKept(m message) {
	var all []message
	for _, k := range h.kept {
		if k.topic < m.topic {
			all = append(all, k)
		}
	}
	if m.payload != "" {
		all = append(all, m)
	}
	for _, k := range h.kept {
		if k.topic > m.topic {
			all = append(all, k)
		}
	}
	h.kept = all
}

// spread delivers a message to all whom it reaches, and answers them, rising.
func (h *Hub) spread(m message) []int {
	turns := h.takeTurns(m.topic)
	var all []int
	for client := 0; client < maxClients; client++ {
		if h.reaches(client, m.topic) {
			h.deliver(client, m)
			all = append(all, client)
		}
		for _, other := range turns {
			if other == client {
				h.deliver(client, m)
				all = append(all, client)
			}
		}
	}
	return all
}

// reaches tells whether a client has a subscription that matches and is not
// shared.
func (h *Hub) reaches(client int, t string) bool {
	for _, s := range h.subs {
		if s.client == client && s.group == "" && matches(s.filter, t) {
			return true
		}
	}
	return false
}

// takeTurns answers the clients whose turn it is, one for each group and
// filter that matches, and moves their subscriptions behind all others, so
// that the served ones stand in the order in which they were served.
func (h *Hub) takeTurns(t string) []int {
	var turns []int
	var all []subscription
	var served []subscription
	for i, s := range h.subs {
		if s.group != "" && matches(s.filter, t) && h.turnOf(s.group, s.filter) == i {
			turns = append(turns, s.client)
			s.served = true
			served = append(served, s)
		} else {
			all = append(all, s)
		}
	}
	for _, s := range served {
		all = append(all, s)
	}
	h.subs = all
	return turns
}

// turnOf answers where the subscription stands whose turn it is among those of
// a group and filter (P13), or the count of subscriptions, if nobody of them
// is connected. The ones not served so far stand in the order in which they
// came, the others in the order in which they were served: no time is needed.
func (h *Hub) turnOf(group string, filter string) int {
	turn := len(h.subs)
	for i, s := range h.subs {
		if s.group != group || s.filter != filter || !h.isHere(s.client) {
			continue
		}
		if !s.served {
			return i
		}
		if turn == len(h.subs) {
			turn = i
		}
	}
	return turn
}
