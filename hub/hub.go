// Package hub: topics, filters, a table of them as a least machine, and a hub that delivers: see DOC.md.
package hub

// Errno is what a call answers: OK or the reason for a refusal.
type Errno int

const (
	OK         Errno = 0
	ErrLong    Errno = 1  // a text above its bound
	ErrTopic   Errno = 2  // no topic
	ErrFilter  Errno = 3  // no filter
	ErrWho     Errno = 4  // nobody of that number
	ErrTwice   Errno = 5  // it is there already
	ErrNone    Errno = 6  // it is not there
	ErrFull    Errno = 7  // there is no room
	ErrCode    Errno = 8  // no code
	ErrAway    Errno = 9  // the client is not connected
	ErrPayload Errno = 10 // too long a payload
)

const (
	maxClients = 6
	maxQueue   = 3
)

// Hub is clients, subscriptions and messages. Make it by NewHub.
type Hub struct {
	clients [maxClients]attendance
	subs    []subscription // ordered as turnOf needs it
	kept    []message      // their topics rising
}

// attendance is what a hub keeps of one client. One that is connected is
// known.
type attendance struct {
	connected bool
	known     bool
	queue     []message
}

type message struct {
	topic   string
	payload string
}

// NewHub makes a hub (P10).
func NewHub() *Hub {
	return &Hub{}
}

func isClient(client int) bool {
	return client >= 0 && client < maxClients
}

func (h *Hub) isHere(client int) bool {
	return isClient(client) && h.clients[client].connected
}

// Connect lets a client come (P10).
func (h *Hub) Connect(client int) Errno {
	if !isClient(client) {
		return ErrWho
	}
	h.clients[client].connected = true
	h.clients[client].known = true
	return OK
}

// Leave lets a client go (P10).
func (h *Hub) Leave(client int) Errno {
	if !isClient(client) {
		return ErrWho
	}
	if !h.isHere(client) {
		return ErrAway
	}
	h.clients[client].connected = false
	return OK
}

// Forget clears a client away (P10).
func (h *Hub) Forget(client int) Errno {
	if !isClient(client) {
		return ErrWho
	}
	if !h.clients[client].known {
		return ErrNone
	}
	h.clients[client] = attendance{}
	var others []subscription
	for _, s := range h.subs {
		if s.client != client {
			others = append(others, s)
		}
	}
	h.subs = others
	return OK
}

// Take answers a client's first message (P14).
func (h *Hub) Take(client int) (string, Errno) {
	if !isClient(client) {
		return "", ErrWho
	}
	if !h.isHere(client) {
		return "", ErrAway
	}
	queue := h.clients[client].queue
	if len(queue) == 0 {
		return "", ErrNone
	}
	first := queue[0]
	var rest []message
	for i := 1; i < len(queue); i++ {
		rest = append(rest, queue[i])
	}
	h.clients[client].queue = rest
	return first.topic + "=" + first.payload, OK
}

// deliver puts a message behind a client's queue, or loses it (P14).
func (h *Hub) deliver(client int, m message) {
	if isClient(client) && len(h.clients[client].queue) < maxQueue {
		h.clients[client].queue = append(h.clients[client].queue, m)
	}
}
