package hub

const (
	maxSubs   = 8
	shareSign = "$share/"
)

// subscription is one that a client has. A group's name has a letter or more,
// so the empty group says that it is not shared.
type subscription struct {
	client int
	group  string
	filter string
	served bool // a message was delivered by its turn
}

// Subscribe gives a client a subscription (P11).
func (h *Hub) Subscribe(client int, s string) (Errno, int) {
	err, place := h.checkSubscription(client, s)
	if err != OK {
		return err, place
	}
	group, filter := splitSubscription(s)
	if h.findSub(client, group, filter) < len(h.subs) {
		return ErrTwice, 0
	}
	if len(h.subs) >= maxSubs {
		return ErrFull, 0
	}
	h.subs = append(h.subs, subscription{client: client, group: group, filter: filter})
	if group == "" {
		h.deliverKept(client, filter)
	}
	return OK, 0
}

// Unsubscribe takes it away (P11).
func (h *Hub) Unsubscribe(client int, s string) (Errno, int) {
	err, place := h.checkSubscription(client, s)
	if err != OK {
		return err, place
	}
	group, filter := splitSubscription(s)
	at := h.findSub(client, group, filter)
	if at == len(h.subs) {
		return ErrNone, 0
	}
	var others []subscription
	for i, other := range h.subs {
		if i != at {
			others = append(others, other)
		}
	}
	h.subs = others
	return OK, 0
}

// checkSubscription finds the errors that Subscribe and Unsubscribe share.
func (h *Hub) checkSubscription(client int, s string) (Errno, int) {
	if !isClient(client) {
		return ErrWho, 0
	}
	if len(s) > maxTopic {
		return ErrLong, 0
	}
	_, filter := splitSubscription(s)
	err, place := CheckFilter(filter)
	if err != OK {
		return err, len(s) - len(filter) + place
	}
	if !h.isHere(client) {
		return ErrAway, 0
	}
	return OK, 0
}

// splitSubscription answers a text's group, which is empty if it is not a
// shared one, and its filter, which is the text's end.
func splitSubscription(s string) (string, string) {
	start := len(shareSign)
	if len(s) < start || s[:start] != shareSign {
		return "", s
	}
	end := start
	for end < len(s) && s[end] >= 'a' && s[end] <= 'z' {
		end++
	}
	if end == start || end == len(s) || s[end] != '/' {
		return "", s
	}
	return s[start:end], s[end+1:]
}

// findSub answers where the subscription stands, or the count of
// subscriptions, if it is not there.
func (h *Hub) findSub(client int, group string, filter string) int {
	for i, s := range h.subs {
		if s.client == client && s.group == group && s.filter == filter {
			return i
		}
	}
	return len(h.subs)
}

func (h *Hub) deliverKept(client int, filter string) {
	for _, m := range h.kept {
		if matches(filter, m.topic) {
			h.deliver(client, m)
		}
	}
}
