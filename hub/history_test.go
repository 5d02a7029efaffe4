package hub_test

import (
	"cmp"
	"fmt"
	"maps"
	"math/rand"
	"slices"
	"testing"

	"hub/hub"
)

// oracleHub follows P10 to P14 by a clock: each subscription knows when it
// came and when a message was last delivered by it.
type oracleHub struct {
	clock int
	known map[int]bool // the value says whether it is connected
	queue map[int][]string
	subs  []*oracleSub
	kept  map[string]string
}

type oracleSub struct {
	client int
	text   string
	since  int
	last   int // 0, if none was delivered so far
}

func newOracleHub() *oracleHub {
	return &oracleHub{known: map[int]bool{}, queue: map[int][]string{}, kept: map[string]string{}}
}

// call is one call of a hub: C: Connect, L: Leave, F: Forget, S: Subscribe,
// U: Unsubscribe, P: Publish, K: Publish with keep, T: Take.
type call struct {
	op      byte
	client  int
	text    string
	payload string
}

func (c call) String() string {
	return fmt.Sprintf("%c %d %q %q", c.op, c.client, c.text, c.payload)
}

// reply is what a call answers.
type reply struct {
	list  string
	text  string
	err   hub.Errno
	place int
}

func (c call) of(h *hub.Hub) reply {
	var got reply
	var list []int
	switch c.op {
	case 'C':
		got.err = h.Connect(c.client)
	case 'L':
		got.err = h.Leave(c.client)
	case 'F':
		got.err = h.Forget(c.client)
	case 'S':
		got.err, got.place = h.Subscribe(c.client, c.text)
	case 'U':
		got.err, got.place = h.Unsubscribe(c.client, c.text)
	case 'T':
		got.text, got.err = h.Take(c.client)
	default:
		list, got.err, got.place = h.Publish(c.text, c.payload, c.op == 'K')
	}
	got.list = fmt.Sprint(list)
	return got
}

func (c call) ofOracle(o *oracleHub) reply {
	var got reply
	var list []int
	o.clock++
	switch c.op {
	case 'P', 'K':
		list, got.err, got.place = o.publish(c.text, c.payload, c.op == 'K')
	case 'S', 'U':
		got.err, got.place = o.change(c.op == 'S', c.client, c.text)
	default:
		got.text, got.err = o.attend(c.op, c.client)
	}
	got.list = fmt.Sprint(list)
	return got
}

func (o *oracleHub) attend(op byte, client int) (string, hub.Errno) {
	connected, known := o.known[client]
	switch {
	case client < 0 || client > 5:
		return "", hub.ErrWho
	case op == 'C':
		o.known[client] = true
	case op == 'L' && !connected, op == 'T' && !connected:
		return "", hub.ErrAway
	case op == 'L':
		o.known[client] = false
	case op == 'F' && !known, op == 'T' && len(o.queue[client]) == 0:
		return "", hub.ErrNone
	case op == 'F':
		delete(o.known, client)
		delete(o.queue, client)
		o.subs = slices.DeleteFunc(o.subs, func(s *oracleSub) bool { return s.client == client })
	case op == 'T':
		first := o.queue[client][0]
		o.queue[client] = slices.Clone(o.queue[client][1:])
		return first, hub.OK
	}
	return "", hub.OK
}

func (o *oracleHub) change(add bool, client int, text string) (hub.Errno, int) {
	if client < 0 || client > 5 {
		return hub.ErrWho, 0
	}
	if len(text) > 24 {
		return hub.ErrLong, 0
	}
	group, filter := oracleSplit(text)
	if err, place := oracleCheckFilter(filter); err != hub.OK {
		return err, len(text) - len(filter) + place
	}
	if !o.known[client] {
		return hub.ErrAway, 0
	}
	at := slices.IndexFunc(o.subs, func(s *oracleSub) bool { return s.client == client && s.text == text })
	switch {
	case add && at >= 0:
		return hub.ErrTwice, 0
	case add && len(o.subs) == 8:
		return hub.ErrFull, 0
	case !add && at < 0:
		return hub.ErrNone, 0
	case !add:
		o.subs = slices.Delete(o.subs, at, at+1)
		return hub.OK, 0
	}
	o.subs = append(o.subs, &oracleSub{client: client, text: text, since: o.clock})
	for _, topic := range slices.Sorted(maps.Keys(o.kept)) {
		if group == "" && oracleMatch(filter, topic) {
			o.deliver(client, topic, o.kept[topic])
		}
	}
	return hub.OK, 0
}

func (o *oracleHub) deliver(client int, topic string, payload string) {
	if len(o.queue[client]) < 3 {
		o.queue[client] = append(o.queue[client], topic+"="+payload)
	}
}

func (o *oracleHub) publish(topic string, payload string, keep bool) ([]int, hub.Errno, int) {
	if err, place := oracleCheckTopic(topic); err != hub.OK {
		return nil, err, place
	}
	if len(payload) > 8 {
		return nil, hub.ErrPayload, 0
	}
	_, there := o.kept[topic]
	if keep && payload != "" && !there && len(o.kept) == 4 {
		return nil, hub.ErrFull, 0
	}
	if keep && payload == "" {
		delete(o.kept, topic)
	} else if keep {
		o.kept[topic] = payload
	}
	list := o.reached(topic)
	for _, client := range list {
		o.deliver(client, topic, payload)
	}
	return list, hub.OK, 0
}

// reached answers all who get a message, and notes the turns.
func (o *oracleHub) reached(topic string) []int {
	plain := map[int]bool{}
	shared := map[string][]*oracleSub{}
	for _, s := range o.subs {
		group, filter := oracleSplit(s.text)
		if !oracleMatch(filter, topic) {
			continue
		}
		if group == "" {
			plain[s.client] = true
		} else if o.known[s.client] {
			shared[s.text] = append(shared[s.text], s)
		}
	}
	list := slices.Collect(maps.Keys(plain))
	for _, subs := range shared {
		turn := slices.MinFunc(subs, func(a *oracleSub, b *oracleSub) int {
			return cmp.Or(cmp.Compare(a.last, b.last), cmp.Compare(a.since, b.since))
		})
		turn.last = o.clock
		list = append(list, turn.client)
	}
	slices.Sort(list)
	return list
}

var (
	historyTexts = []string{"a", "b", "#", "+", "a/#", "+/b", "a/b", "$a", "$a/#", "$share", "$share/g", "$share//a",
		"$share/g1/a", "$share/g/a", "$share/g/a", "$share/g/#", "$share/g/+", "$share/h/a", "$share/h/+", "$share/gh/$a"}
	turnTexts    = []string{"a", "$share/g/a", "$share/g/a", "$share/g/a", "$share/g/+", "$share/h/a"}
	wrongTexts   = []string{"", "a#", "$share/g/", "$share/g/#a", "$share/G/a", "aaaaaaaaaaaaaaaaaaaaaaaaa"}
	keptTopics   = []string{"a", "b", "a/b", "$a", "$a/b", "a/", "/", "aa", "a0", "$share/g/a", "$share/g"}
	wrongTopics  = []string{"", "+", "a/#", "aA", "aaaaaaaaaaaaaaaaaaaaaaaaa"}
	somePayloads = []string{"", "x", "y", "12345678", "123456789"}
)

// madeUp answers a call that is wrong now and then.
func madeUp(r *rand.Rand, ops string, texts []string, topics []string) call {
	c := call{op: ops[r.Intn(len(ops))], client: r.Intn(6)}
	if r.Intn(30) == 0 {
		c.client = []int{-1, 6}[r.Intn(2)]
	}
	wrong := r.Intn(15) == 0
	switch c.op {
	case 'S', 'U':
		c.text = texts[r.Intn(len(texts))]
		if wrong {
			c.text = wrongTexts[r.Intn(len(wrongTexts))]
		}
	case 'P', 'K':
		c.client = 0
		c.text = topics[r.Intn(len(topics))]
		if wrong {
			c.text = wrongTopics[r.Intn(len(wrongTopics))]
		}
		c.payload = somePayloads[r.Intn(len(somePayloads))]
	}
	return c
}

// Two hubs and a table are used in turn: each answers as if it were alone.
func TestHistories(t *testing.T) {
	pairs := []oraclePair{{"a", 0}, {"#", 1}, {"$a/+", 2}}
	r := rand.New(rand.NewSource(14))
	for range 1500 {
		hubs := [2]*hub.Hub{hub.NewHub(), hub.NewHub()}
		oracles := [2]*oracleHub{newOracleHub(), newOracleHub()}
		table := tableOf(t, pairs)
		texts, topics, ops := historyTexts, keptTopics, "CCCCLLFSSSSSSSSUUPPPPPPPPKKKKKTTTTT"
		if r.Intn(2) == 0 {
			texts, topics, ops = turnTexts, []string{"a", "a", "a", "b"}, "CCCCLLLFSSSSSSUUPPPPPPPPPPPPKTT"
		}
		var past []string
		for range 120 {
			at := r.Intn(2)
			c := madeUp(r, ops, texts, topics)
			past = append(past, fmt.Sprint(at, ": ", c))
			if got, want := c.of(hubs[at]), c.ofOracle(oracles[at]); got != want {
				t.Fatalf("P10 to P14: %v, want %v, at the end of %q", got, want, past)
			}
		}
		drain(t, hubs[0], oracles[0])
		drain(t, hubs[1], oracles[1])
		hasPairs(t, "P2: a table beside hubs", table, pairs)
	}
}

// drain compares all that is left in the queues.
func drain(t *testing.T, h *hub.Hub, o *oracleHub) {
	t.Helper()
	for client := range 6 {
		for _, c := range []call{{op: 'C', client: client}, {op: 'T', client: client}, {op: 'T', client: client},
			{op: 'T', client: client}, {op: 'T', client: client}} {
			if got, want := c.of(h), c.ofOracle(o); got != want {
				t.Fatalf("P14: %v of what was left: %v, want %v", c, got, want)
			}
		}
	}
}

// The same calls are answered alike by two hubs, with a third one in between
// that has other ones.
func TestHubsShareNothing(t *testing.T) {
	r := rand.New(rand.NewSource(15))
	one, same, other := hub.NewHub(), hub.NewHub(), hub.NewHub()
	for range 5000 {
		c := madeUp(r, "CCCLFSSSSSUPPPPKKTT", historyTexts, keptTopics)
		first := c.of(one)
		madeUp(r, "CCCLFSSSSSUPPPPKKTT", historyTexts, keptTopics).of(other)
		if second := c.of(same); first != second {
			t.Fatalf("P2: %v is answered by %v and %v", c, first, second)
		}
	}
}

// A call with an error changes nothing: two hubs have the same history but for
// calls with errors, which one alone has.
func TestErrorsChangeNothing(t *testing.T) {
	r := rand.New(rand.NewSource(16))
	errors := map[string]int{}
	for range 300 {
		calm, tried := hub.NewHub(), hub.NewHub()
		oracle := newOracleHub()
		for range 100 {
			c := madeUp(r, "CCCLFSSSSSSSUPPPPKKKTT", historyTexts, keptTopics)
			if want := c.ofOracle(oracle); want.err != hub.OK {
				errors[fmt.Sprintf("%c%d", c.op, want.err)]++
				c.of(tried)
				continue
			}
			if got, want := c.of(tried), c.of(calm); got != want {
				t.Fatalf("P1: %v is answered by %v, and by %v with no errors ahead of it", c, got, want)
			}
		}
		drain(t, tried, oracle)
	}
	for _, want := range []string{"C4", "L4", "L9", "F4", "F6", "T4", "T6", "T9", "S4", "S1", "S3", "S9", "S5", "S7",
		"U4", "U1", "U3", "U9", "U6", "P1", "P2", "P10", "K1", "K2", "K10", "K7"} {
		if errors[want] == 0 {
			t.Errorf("the histories have no error %s", want)
		}
	}
}
