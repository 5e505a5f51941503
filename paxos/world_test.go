package paxos_test

import (
	"slices"
	"strconv"
	"testing"

	"mooring/api"
	"mooring/paxos"
)

// numbers is a stream of numbers that look like chance, and are always the same.
type numbers uint64

func (n *numbers) below(limit int) int {
	*n = *n*6364136223846793005 + 1442695040888963407
	return int(uint64(*n)>>33) % limit
}

// bytes is so many bytes of a stream.
func (n *numbers) bytes(count int) []byte {
	out := make([]byte, count)
	for i := range out {
		out[i] = byte(n.below(256))
	}
	return out
}

// parcel is a message on its way.
type parcel struct {
	from, to int
	data     string
}

// asked is a value that a monitor was asked to propose.
type asked struct {
	mon   int
	value string
	lost  bool // its monitor crashed since
}

// world is monitors, what is on its way, and all that was ever asked and told: what
// the chapter promises is reckoned by that alone.
type world struct {
	t       testing.TB
	nodes   []*paxos.Node
	way     []parcel
	sent    []parcel // all that was ever sent
	asked   []asked  // all that told OK
	longest []string // the decrees that anybody ever knew
	known   []int    // how many each one knew when it was looked at last
	unlike  bool     // no two values are alike: what waits can be reckoned then
	mails   int
}

func newNode(t testing.TB, id, n int) *paxos.Node {
	t.Helper()
	x, e := paxos.New(id, n)
	if e != api.OK || x == nil {
		t.Fatalf("New(%d, %d): %v, error %d", id, n, x, e)
	}
	return x
}

func newWorld(t testing.TB, n int) *world {
	t.Helper()
	w := &world{t: t, known: make([]int, n)}
	for id := range n {
		w.nodes = append(w.nodes, newNode(t, id, n))
	}
	return w
}

// all is the numbers of all monitors.
func (w *world) all() []int {
	var out []int
	for id := range w.nodes {
		out = append(out, id)
	}
	return out
}

// propose lets a value wait with a monitor.
func (w *world) propose(id int, v string) {
	w.t.Helper()
	was, want := w.nodes[id].Pending(), api.OK
	if was == api.MaxPending {
		want = api.ErrFull
	}
	if e := w.nodes[id].Propose([]byte(v)); e != want {
		w.t.Fatalf("Propose of %q at %d, where %d wait: error %d", v, id, was, e)
	}
	if want == api.OK {
		w.asked = append(w.asked, asked{mon: id, value: v})
		was++
	}
	if got := w.nodes[id].Pending(); got != was {
		w.t.Fatalf("behind Propose of %q at %d %d wait, and not %d", v, id, got, was)
	}
	w.look(id)
}

// post lets what a monitor sends be on its way.
func (w *world) post(from int, l []api.Mail) {
	w.t.Helper()
	for _, m := range l {
		if m.To < 0 || m.To >= len(w.nodes) || m.To == from {
			w.t.Fatalf("%d of %d sends to %d", from, len(w.nodes), m.To)
		}
		if len(m.Data) >= api.MaxBytes {
			w.t.Fatalf("%d sends %d bytes", from, len(m.Data))
		}
		p := parcel{from, m.To, string(m.Data)}
		w.way, w.sent = append(w.way, p), append(w.sent, p)
	}
	w.mails += len(l)
}

func (w *world) tick(id int) {
	w.t.Helper()
	w.post(id, w.nodes[id].Tick())
	w.look(id)
}

// give lets a message be taken, on its way or not: whenever that is, it is one that
// such a monitor sends.
func (w *world) give(p parcel) {
	w.t.Helper()
	l, e := w.nodes[p.to].Receive(p.from, []byte(p.data))
	if e != api.OK {
		w.t.Fatalf("%d told error %d of %x, that %d sent", p.to, e, p.data, p.from)
	}
	w.post(p.to, l)
	w.look(p.to)
}

// take takes the i-th message from its way.
func (w *world) take(i int) parcel {
	p := w.way[i]
	w.way = slices.Delete(w.way, i, i+1)
	return p
}

func (w *world) crash(id int) {
	w.t.Helper()
	w.nodes[id].Crash()
	if got := w.nodes[id].Pending(); got != 0 {
		w.t.Fatalf("behind a crash %d wait with %d", got, id)
	}
	for i := range w.asked {
		w.asked[i].lost = w.asked[i].lost || w.asked[i].mon == id
	}
	w.look(id)
}

// decrees is what a monitor knows.
func (w *world) decrees(id int) []string {
	w.t.Helper()
	x := w.nodes[id]
	var out []string
	for i := 1; i <= x.Len(); i++ {
		v, ok := x.Get(i)
		if !ok {
			w.t.Fatalf("%d knows %d decrees, and not the %d-th", id, x.Len(), i)
		}
		out = append(out, string(v))
	}
	return out
}

// look holds what a monitor knows against what anybody knows and ever knew, and
// against what was asked (Pa3).
func (w *world) look(id int) {
	w.t.Helper()
	now := w.decrees(id)
	if len(now) < w.known[id] {
		w.t.Fatalf("%d knew %d decrees, and knows %d", id, w.known[id], len(now))
	}
	w.known[id] = len(now)
	both := min(len(now), len(w.longest))
	if !slices.Equal(now[:both], w.longest[:both]) {
		w.t.Fatalf("%d knows %q, and %q was known", id, now, w.longest)
	}
	if len(now) > len(w.longest) {
		w.longest = now
		w.count()
	}
	if w.unlike {
		w.waits(id)
	}
}

// count looks whether each decree was asked for, and as often as it is one.
func (w *world) count() {
	w.t.Helper()
	left := map[string]int{}
	for _, a := range w.asked {
		left[a.value]++
	}
	for _, v := range w.longest {
		if left[v]--; left[v] < 0 {
			w.t.Fatalf("%q is a decree more often than it was proposed: %q", v, w.longest)
		}
	}
}

// waits looks whether with a monitor just those wait that it was asked for since it
// crashed, and that it does not know as decrees (Pa1, Pa2).
func (w *world) waits(id int) {
	w.t.Helper()
	want := 0
	for _, a := range w.asked {
		if a.mon == id && !a.lost && !slices.Contains(w.longest[:w.known[id]], a.value) {
			want++
		}
	}
	if got := w.nodes[id].Pending(); got != want {
		w.t.Fatalf("with %d %d values wait, and not %d", id, got, want)
	}
}

// waiting is how many values wait, in all.
func (w *world) waiting() int {
	sum := 0
	for _, x := range w.nodes {
		sum += x.Pending()
	}
	return sum
}

// round is one of these monitors alone, with nothing lost between them: a Tick of
// each, and then the delivery of all.
func (w *world) round(awake ...int) {
	w.t.Helper()
	for _, id := range awake {
		w.tick(id)
	}
	for steps := 0; len(w.way) > 0; steps++ {
		if p := w.take(0); slices.Contains(awake, p.to) {
			w.give(p)
		}
		if steps > 200000 {
			w.t.Fatal("a round does not end")
		}
	}
}

// rounds is many of them.
func (w *world) rounds(count int, awake ...int) {
	w.t.Helper()
	for range count {
		w.round(awake...)
	}
}

// rests looks whether these know the same decrees, and nothing waits with any.
func (w *world) rests(awake ...int) {
	w.t.Helper()
	first := w.decrees(awake[0])
	for _, id := range awake {
		if got := w.decrees(id); !slices.Equal(got, first) {
			w.t.Fatalf("%d knows %q, and %d knows %q", id, got, awake[0], first)
		}
		if got := w.nodes[id].Pending(); got != 0 {
			w.t.Fatalf("%d values wait with %d", got, id)
		}
	}
}

// knows looks whether a monitor knows just these decrees.
func (w *world) knows(id int, want ...string) {
	w.t.Helper()
	if got := w.decrees(id); !slices.Equal(got, want) {
		w.t.Fatalf("%d knows %q, and not %q", id, got, want)
	}
}

// swiftRounds is rounds at which nothing is looked at, of the first monitors alone:
// what goes to others is lost.
func swiftRounds(t testing.TB, l []*paxos.Node, count int) {
	t.Helper()
	var way []parcel
	post := func(from int, l []api.Mail) {
		for _, m := range l {
			way = append(way, parcel{from, m.To, string(m.Data)})
		}
	}
	for range count {
		for id, x := range l {
			post(id, x.Tick())
		}
		for len(way) > 0 {
			p := way[0]
			way = way[1:]
			if p.to >= len(l) {
				continue
			}
			more, e := l[p.to].Receive(p.from, []byte(p.data))
			if e != api.OK {
				t.Fatalf("Receive: error %d", e)
			}
			post(p.to, more)
		}
	}
}

// habits is how often what is done in a run: of each, how many times in all.
type habits struct {
	propose, tick, first, any, drop, twice, late, crash int
}

// common is runs in which most comes to its end.
var common = habits{propose: 2, tick: 4, first: 40, any: 8, drop: 2, twice: 1, late: 1, crash: 1}

// all is how many times something is done.
func (h habits) all() int {
	return h.propose + h.tick + h.first + h.any + h.drop + h.twice + h.late + h.crash
}

// step does one thing, by a stream of numbers. value is what is proposed, if so.
func (w *world) step(below func(int) int, h habits, value string) {
	w.t.Helper()
	id, kind := below(len(w.nodes)), below(h.all())
	turn := func(times int) bool {
		kind -= times
		return kind < 0
	}
	switch {
	case turn(h.propose):
		w.propose(id, value)
	case turn(h.tick):
		w.tick(id)
	case turn(h.crash):
		w.crash(id)
	case turn(h.late):
		if len(w.sent) > 0 {
			w.give(w.sent[below(len(w.sent))])
		}
	case len(w.way) == 0:
		w.tick(id)
	case turn(h.first):
		w.give(w.take(0))
	case turn(h.any):
		w.give(w.take(below(len(w.way))))
	case turn(h.drop):
		w.take(below(len(w.way)))
	default:
		w.way = append(w.way, w.way[below(len(w.way))])
	}
}

// name is a value like no other one.
func name(i int) string { return "v" + strconv.Itoa(i) }
