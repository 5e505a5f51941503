package monitor_test

import (
	"bytes"
	"slices"
	"testing"

	"mooring/api"
	"mooring/atlas"
	"mooring/monitor"
	"mooring/paxos"
)

// numbers is a stream of numbers that look like chance, and are always the same.
type numbers uint64

func (n *numbers) below(limit int) int {
	*n = *n*6364136223846793005 + 1442695040888963407
	return int(uint64(*n)>>33) % limit
}

// pool is one that may be.
var pool = api.Pool{K: 2, M: 1, Pgs: 4}

// parcel is a message on its way.
type parcel struct {
	from, to int
	data     string
}

// twin is a monitor, and a node of layer 12 that is called just as the monitor is: what
// the chapter promises is reckoned by the node's decrees and layer 13.
type twin struct {
	*monitor.Monitor
	node  *paxos.Node
	epoch int          // when it was looked at last
	read  int          // how many of the node's decrees were read then
	asked []api.Change // those of them that are changes
	want  []api.Change // those of these that the map did not refuse
}

// world is monitors, what is on its way, and all that anybody ever had.
type world struct {
	t       testing.TB
	pool    api.Pool
	mons    []*twin
	way     []parcel
	sent    []parcel          // all that was ever sent
	changes []api.Change      // of the longest list that anybody ever told
	maps    []api.Map         // of each epoch that anybody ever had
	told    map[api.Errno]int // how often the decrees that anybody knew told what
	blind   bool              // nobody is looked at behind a step
}

func newMonitor(t testing.TB, id, n int, p api.Pool) *monitor.Monitor {
	t.Helper()
	x, e := monitor.New(id, n, p)
	if e != api.OK || x == nil {
		t.Fatalf("New(%d, %d, %v): %v, error %d", id, n, p, x, e)
	}
	return x
}

// peopled is a world with some OSDs.
func peopled(t testing.TB, n int) *world {
	t.Helper()
	w := newWorld(t, n)
	for id := range 3 {
		w.ask(id%n, add(id))
	}
	w.rounds(4, w.all()...)
	w.rest(w.all()...)
	return w
}

func newWorld(t testing.TB, n int) *world {
	t.Helper()
	first, e := atlas.New(pool)
	if e != api.OK {
		t.Fatalf("atlas.New: error %d", e)
	}
	w := &world{t: t, pool: pool, maps: []api.Map{first}, told: map[api.Errno]int{}}
	for id := range n {
		node, e := paxos.New(id, n)
		if e != api.OK {
			t.Fatalf("paxos.New: error %d", e)
		}
		w.mons = append(w.mons, &twin{Monitor: newMonitor(t, id, n, pool), node: node})
	}
	return w
}

// all is the numbers of all monitors.
func (w *world) all() []int {
	var out []int
	for id := range w.mons {
		out = append(out, id)
	}
	return out
}

// ask lets a change wait with a monitor, if it may be, and there is room.
func (w *world) ask(id int, c api.Change) api.Errno {
	w.t.Helper()
	x := w.mons[id]
	was, want := x.Pending(), atlas.CheckChange(c)
	switch {
	case want != api.OK:
	case was == api.MaxPending:
		want = api.ErrFull
	default:
		b, _ := atlas.EncodeChange(c)
		if e := x.node.Propose(b); e != api.OK {
			w.t.Fatalf("Propose of %x: error %d", b, e)
		}
	}
	if e := x.Ask(c); e != want {
		w.t.Fatalf("Ask of %v at %d, where %d wait: error %d, and not %d", c, id, was, e, want)
	}
	w.step(id)
	return want
}

// post lets what a monitor sends be on its way; want is what its node sends.
func (w *world) post(from int, l, want []api.Mail) {
	w.t.Helper()
	if !slices.EqualFunc(l, want, sameMail) {
		w.t.Fatalf("%d sends %v, and its node %v", from, l, want)
	}
	for _, m := range l {
		p := parcel{from, m.To, string(m.Data)}
		w.way, w.sent = append(w.way, p), append(w.sent, p)
	}
}

func sameMail(a, b api.Mail) bool { return a.To == b.To && bytes.Equal(a.Data, b.Data) }

func (w *world) tick(id int) {
	w.t.Helper()
	w.post(id, w.mons[id].Tick(), w.mons[id].node.Tick())
	w.step(id)
}

// give lets a message be taken, on its way or not.
func (w *world) give(p parcel) {
	w.t.Helper()
	w.hand(p.to, p.from, p.data, api.OK)
}

// hand lets bytes be taken, of which the monitor and its node are to tell an error.
func (w *world) hand(to, from int, data string, want api.Errno) {
	w.t.Helper()
	x := w.mons[to]
	l, e := x.Receive(from, []byte(data))
	nodes, _ := x.node.Receive(from, []byte(data))
	if e != want || e != api.OK && len(l) > 0 {
		w.t.Fatalf("Receive of %x at %d from %d: %v, error %d, and not %d", data, to, from, l, e, want)
	}
	w.post(to, l, nodes)
	w.step(to)
}

// take takes the i-th message from its way.
func (w *world) take(i int) parcel {
	p := w.way[i]
	w.way = slices.Delete(w.way, i, i+1)
	return p
}

func (w *world) crash(id int) {
	w.t.Helper()
	w.mons[id].Crash()
	w.mons[id].node.Crash()
	if got := w.mons[id].Pending(); got != 0 {
		w.t.Fatalf("behind a crash %d wait with %d", got, id)
	}
	w.step(id)
}

// step looks at a monitor, with which something was done.
func (w *world) step(id int) {
	if !w.blind {
		w.look(id)
	}
}

// decided reads the decrees that a monitor's node came to know, and keeps what layer
// 13's Fold tells of all changes among them.
func (w *world) decided(x *twin) {
	if x.read == x.node.Len() {
		return
	}
	for x.read < x.node.Len() {
		x.read++
		b, _ := x.node.Get(x.read)
		if c, e := atlas.DecodeChange(b); e == api.OK {
			x.asked = append(x.asked, c)
		}
	}
	_, told, _ := atlas.Fold(w.pool, x.asked)
	x.want = nil
	for i, c := range x.asked {
		if told[i] == api.OK {
			x.want = append(x.want, c)
		}
	}
	w.grow(x.want, told)
}

// look holds a monitor's Epoch, Map, Changes and Pending against layer 13's Fold of the
// decrees that its node knows (Mo1), and against what anybody ever had (Mo2).
func (w *world) look(id int) {
	x := w.mons[id]
	w.decided(x)
	want := x.want
	if got := x.Pending(); got != x.node.Pending() {
		w.t.Fatalf("with %d %d wait, and not %d", id, got, x.node.Pending())
	}
	if got := x.Epoch(); got != len(want) || got < x.epoch {
		w.t.Fatalf("%d is at epoch %d, and was at %d: %v", id, got, x.epoch, want)
	}
	if got := x.Changes(); !slices.Equal(got, want) {
		w.t.Fatalf("%d has changes %v, and not %v", id, got, want)
	}
	// The maps of before were looked at before, but for one of them.
	w.holds(id, len(w.sent)%(x.epoch+1))
	for epoch := x.epoch; epoch <= len(want); epoch++ {
		w.holds(id, epoch)
	}
	x.epoch = len(want)
	w.none(id, -1)
	w.none(id, x.epoch+1)
}

// grow keeps what is had for the first time; the rest is as anybody had it ever (Mo2).
func (w *world) grow(changes []api.Change, told []api.Errno) {
	both := min(len(changes), len(w.changes))
	if !slices.Equal(changes[:both], w.changes[:both]) {
		w.t.Fatalf("one has changes %v, and another one had %v", changes, w.changes)
	}
	for len(w.changes) < len(changes) {
		w.changes = append(w.changes, changes[len(w.changes)])
		m, _, _ := atlas.Fold(w.pool, w.changes)
		w.maps = append(w.maps, m)
	}
	sum := 0
	for _, count := range w.told {
		sum += count
	}
	for i := sum; i < len(told); i++ {
		w.told[told[i]]++
	}
}

// holds looks whether a monitor's map of an epoch is everybody's.
func (w *world) holds(id, epoch int) {
	m, ok := w.mons[id].Map(epoch)
	if !ok || !atlas.Same(m, w.maps[epoch]) || m.Epoch != epoch {
		w.t.Fatalf("%d has %v, %v at epoch %d, and not %v", id, m, ok, epoch, w.maps[epoch])
	}
}

// none looks whether a monitor has no map of an epoch.
func (w *world) none(id, epoch int) {
	if m, ok := w.mons[id].Map(epoch); ok || !zeroMap(m) {
		w.t.Fatalf("%d has %v, %v at epoch %d", id, m, ok, epoch)
	}
}

func zeroMap(m api.Map) bool { return atlas.Same(m, api.Map{}) }

// rest looks at all maps of each of these monitors, whether they are the same, and
// whether nothing waits with any (Mo3).
func (w *world) rest(awake ...int) {
	w.t.Helper()
	for _, id := range awake {
		w.look(id)
		if got := w.mons[id].Pending(); got != 0 {
			w.t.Fatalf("%d changes wait with %d", got, id)
		}
		if got := w.mons[id].Epoch(); got != w.mons[awake[0]].Epoch() {
			w.t.Fatalf("%d is at epoch %d, and %d at %d", id, got, awake[0], w.mons[awake[0]].Epoch())
		}
		for epoch := range w.mons[id].Epoch() + 1 {
			w.holds(id, epoch)
		}
	}
}

// round is one of these monitors alone, with nothing lost between them: a Tick of each,
// and then the delivery of all.
func (w *world) round(awake ...int) {
	w.t.Helper()
	for _, id := range awake {
		w.tick(id)
	}
	for steps := 0; len(w.way) > 0; steps++ {
		if p := w.take(0); slices.Contains(awake, p.to) {
			w.give(p)
		}
		if steps > 200000 {
			w.t.Fatal("a round does not end")
		}
	}
}

// rounds is many of them.
func (w *world) rounds(count int, awake ...int) {
	w.t.Helper()
	for range count {
		w.round(awake...)
	}
}

// habits is how often what is done in a run: of each, how many times in all.
type habits struct {
	ask, tick, first, any, drop, twice, late, crash, calm int
}

// common is runs in which most comes to its end.
var common = habits{ask: 6, tick: 4, first: 40, any: 8, drop: 2, twice: 1, late: 1, crash: 1, calm: 1}

// all is how many times something is done.
func (h habits) all() int {
	return h.ask + h.tick + h.first + h.any + h.drop + h.twice + h.late + h.crash + h.calm
}

// act does one thing, by a stream of numbers.
func (w *world) act(below func(int) int, h habits) {
	w.t.Helper()
	id, kind := below(len(w.mons)), below(h.all())
	turn := func(times int) bool {
		kind -= times
		return kind < 0
	}
	switch {
	case turn(h.ask):
		w.ask(id, anyChange(below))
	case turn(h.tick):
		w.tick(id)
	case turn(h.crash):
		w.crash(id)
	case turn(h.calm):
		w.round(w.all()...)
	case turn(h.late):
		if len(w.sent) > 0 {
			w.give(w.sent[below(len(w.sent))])
		}
	case len(w.way) == 0:
		w.tick(id)
	case turn(h.first):
		w.give(w.take(0))
	case turn(h.any):
		w.give(w.take(below(len(w.way))))
	case turn(h.drop):
		w.take(below(len(w.way)))
	default:
		w.way = append(w.way, w.way[below(len(w.way))])
	}
}

// anyChange is a change of few parts, so that many meet the same OSD: most may be, and
// many of those are refused by the map.
func anyChange(below func(int) int) api.Change {
	c := api.Change{Kind: 1 + below(api.ChangeKinds-1), Osd: api.Osd{Id: below(5)}}
	switch c.Kind {
	case api.ChangeAdd:
		c.Osd.Host, c.Osd.Rack, c.Osd.In = below(2), below(2), below(2) == 1
	case api.ChangeUp:
		c.Osd.Life, c.Osd.Boot = 1+below(2), 1+below(2)
	case api.ChangeWeight:
		c.Osd.Weight = below(3) * api.One
	}
	if below(16) == 0 {
		c.Osd.Life = -1 // no change may be so
	}
	return c
}

// add is the change that lets there be an OSD.
func add(id int) api.Change {
	return api.Change{Kind: api.ChangeAdd, Osd: api.Osd{Id: id}}
}

// of is a change of a kind that needs an Id alone.
func of(kind, id int) api.Change {
	return api.Change{Kind: kind, Osd: api.Osd{Id: id}}
}

// up is the change that lets an OSD be up.
func up(id, life, boot int) api.Change {
	return api.Change{Kind: api.ChangeUp, Osd: api.Osd{Id: id, Life: life, Boot: boot}}
}

// weight is the change that lets an OSD have a weight.
func weight(id, n int) api.Change {
	return api.Change{Kind: api.ChangeWeight, Osd: api.Osd{Id: id, Weight: n}}
}
