// Package hub: topics, filters, a table of them as a least machine, and a hub that delivers: see DOC.md.
package hub

// Errno is what a call answers: OK or the reason for a refusal.
type Errno int

const (
	OK         Errno = 0
	ErrLong    Errno = 1  // a text above its bound
	ErrTopic   Errno = 2  // no topic
	ErrFilter  Errno = 3  // no filter
	ErrWho     Errno = 4  // nobody of that number
	ErrTwice   Errno = 5  // it is there already
	ErrNone    Errno = 6  // it is not there
	ErrFull    Errno = 7  // there is no room
	ErrCode    Errno = 8  // no code
	ErrAway    Errno = 9  // the client is not connected
	ErrPayload Errno = 10 // too long a payload
)

// Hub is clients, subscriptions and messages. Make it by NewHub.
type Hub struct{}

// NewHub makes a hub (P10).
func NewHub() *Hub { return &Hub{} }

// Connect lets a client come (P10).
func (h *Hub) Connect(client int) Errno { return 0 }

// Leave lets a client go (P10).
func (h *Hub) Leave(client int) Errno { return 0 }

// Forget clears a client away (P10).
func (h *Hub) Forget(client int) Errno { return 0 }

// Subscribe gives a client a subscription (P11).
func (h *Hub) Subscribe(client int, s string) (Errno, int) { return 0, 0 }

// Unsubscribe takes it away (P11).
func (h *Hub) Unsubscribe(client int, s string) (Errno, int) { return 0, 0 }

// Publish delivers a message (P12, P13).
func (h *Hub) Publish(t string, payload string, keep bool) ([]int, Errno, int) { return nil, 0, 0 }

// Take answers a client's first message (P14).
func (h *Hub) Take(client int) (string, Errno) { return "", 0 }
