package monitor_test

import (
	"math"
	"slices"
	"testing"

	"mooring/api"
	"mooring/atlas"
	"mooring/monitor"
	"mooring/paxos"
)

// sizes is how many monitors there may be.
var sizes = []int{1, 2, 3, 4, 5, 6, 7}

// The chapter's example: one monitor, Ask of an add, Tick: Epoch 1.
func TestExample(t *testing.T) {
	x := newMonitor(t, 0, 1, pool)
	if e := x.Ask(add(3)); e != api.OK {
		t.Fatalf("Ask: error %d", e)
	}
	if x.Epoch() != 0 || x.Pending() != 1 {
		t.Errorf("ahead of Tick: epoch %d, %d wait", x.Epoch(), x.Pending())
	}
	if l := x.Tick(); len(l) != 0 {
		t.Errorf("Tick sends %v", l)
	}
	want := api.Map{Epoch: 1, Pool: pool, Osds: []api.Osd{{Id: 3}}}
	m, ok := x.Map(1)
	if x.Epoch() != 1 || x.Pending() != 0 || !ok || !atlas.Same(m, want) {
		t.Errorf("epoch %d, %d wait, map %v, %v", x.Epoch(), x.Pending(), m, ok)
	}
	if l := x.Changes(); !slices.Equal(l, []api.Change{add(3)}) {
		t.Errorf("changes %v", l)
	}
}

// Mo1: New tells ErrArg of just those ids and numbers that layer 12's New refuses: n is
// 1 to 7, id 0 to n - 1.
func TestNewIds(t *testing.T) {
	edges := []int{math.MinInt, math.MinInt + 1, -1 << 32, -256, -2, -1, 0, 1, 2, 3, 4, 5, 6, 7, 8, 9, 255, 256, 1 << 32, 1<<32 + 1, math.MaxInt}
	taken := 0
	for _, n := range edges {
		for _, id := range edges {
			want := api.ErrArg
			if n >= 1 && n <= 7 && id >= 0 && id < n {
				want = api.OK
				taken++
			}
			x, e := monitor.New(id, n, pool)
			if e != want || (x != nil) != (want == api.OK) {
				t.Errorf("New(%d, %d): %v, error %d", id, n, x, e)
			}
			if x, e := monitor.New(id, n, api.Pool{}); e != api.ErrArg || x != nil {
				t.Errorf("New(%d, %d) of no pool: %v, error %d", id, n, x, e)
			}
		}
	}
	if taken != 28 {
		t.Errorf("%d were taken", taken)
	}
}

// Mo1: New tells ErrArg of just those pools that may not be by layer 13.
func TestNewPools(t *testing.T) {
	shards := []int{math.MinInt, -1, 0, 1, 2, 16, 31, 32, 33, math.MaxInt}
	pgs := []int{math.MinInt, -1, 0, 1, 32, 33, math.MaxInt}
	domains := []int{math.MinInt, -1, api.DomainOsd, api.DomainHost, api.DomainRack, api.Domains, math.MaxInt}
	taken := 0
	for _, k := range shards {
		for _, m := range shards {
			for _, pg := range pgs {
				for _, d := range domains {
					p := api.Pool{K: k, M: m, Pgs: pg, Domain: d}
					may := k >= 1 && k <= 32 && m >= 1 && m <= 32 && k+m <= 32 && pg >= 1 && pg <= 32 && d >= 0 && d <= 2
					x, e := monitor.New(1, 3, p)
					if may != (e == api.OK) || may != (x != nil) || !may && e != api.ErrArg {
						t.Fatalf("New of %v: %v, error %d", p, x, e)
					}
					if !may {
						continue
					}
					taken++
					if got, ok := x.Map(0); !ok || !atlas.Same(got, api.Map{Pool: p}) {
						t.Fatalf("New of %v has %v, %v", p, got, ok)
					}
				}
			}
		}
	}
	if taken < 50 {
		t.Errorf("%d were taken", taken)
	}
}

// Mo1: a new monitor has the pool's first map alone, and nothing waits with it.
func TestNewMonitorHasTheFirstMap(t *testing.T) {
	for _, n := range sizes {
		for id := range n {
			x := newMonitor(t, id, n, pool)
			if x.Epoch() != 0 || x.Pending() != 0 || len(x.Changes()) != 0 {
				t.Errorf("%d of %d: epoch %d, %d wait, changes %v", id, n, x.Epoch(), x.Pending(), x.Changes())
			}
			if m, ok := x.Map(0); !ok || !atlas.Same(m, api.Map{Pool: pool}) {
				t.Errorf("%d of %d: map %v, %v", id, n, m, ok)
			}
			for _, epoch := range []int{math.MinInt, -1, 1, 2, api.MaxEpoch, math.MaxInt} {
				if m, ok := x.Map(epoch); ok || !zeroMap(m) {
					t.Errorf("%d of %d: at epoch %d %v, %v", id, n, epoch, m, ok)
				}
			}
		}
	}
}

// wrong is changes that may not be, of each kind, and of none.
func wrong() []api.Change {
	var out []api.Change
	for _, kind := range []int{math.MinInt, -1, 0, api.ChangeKinds, api.ChangeKinds + 1, math.MaxInt} {
		out = append(out, of(kind, 0), of(kind, 1))
	}
	for kind := 1; kind < api.ChangeKinds; kind++ {
		for _, id := range []int{math.MinInt, -1, 1000, math.MaxInt} {
			c := api.Change{Kind: kind, Osd: api.Osd{Id: id}}
			if kind == api.ChangeUp {
				c.Osd.Life, c.Osd.Boot = 1, 1
			}
			out = append(out, c)
		}
	}
	out = append(out,
		api.Change{Kind: api.ChangeAdd, Osd: api.Osd{Up: true}},
		api.Change{Kind: api.ChangeAdd, Osd: api.Osd{Up: true, Life: 1}},
		api.Change{Kind: api.ChangeAdd, Osd: api.Osd{Host: 1000}},
		api.Change{Kind: api.ChangeAdd, Osd: api.Osd{Rack: -1}},
		weight(1, -1), weight(1, api.MaxWeight+1),
		up(1, 0, 1), up(1, 1, 0), up(1, 1<<31, 1), up(1, 1, 1<<31))
	for _, kind := range []int{api.ChangeDown, api.ChangeIn, api.ChangeOut} {
		out = append(out,
			api.Change{Kind: kind, Osd: api.Osd{Id: 1, Up: true}},
			api.Change{Kind: kind, Osd: api.Osd{Id: 1, In: true}},
			api.Change{Kind: kind, Osd: api.Osd{Id: 1, Weight: 1}},
			api.Change{Kind: kind, Osd: api.Osd{Id: 1, Rack: 1}})
	}
	return out
}

// Mo1: Ask tells ErrArg of a change that may not be, of each kind; nothing waits then.
func TestAskOfWhatMayNotBe(t *testing.T) {
	for _, n := range []int{1, 3} {
		w := newWorld(t, n)
		for _, c := range wrong() {
			if e := w.mons[0].Ask(c); e != api.ErrArg {
				t.Errorf("Ask of %v: error %d", c, e)
			}
		}
		w.rounds(3, w.all()...)
		w.ask(0, add(1))
		w.rounds(5, w.all()...)
		for _, c := range wrong() {
			if e := w.mons[n-1].Ask(c); e != api.ErrArg {
				t.Errorf("Ask of %v: error %d", c, e)
			}
		}
		w.rounds(3, w.all()...)
		w.rest(w.all()...)
		if got := w.mons[0].Epoch(); got != 1 {
			t.Errorf("epoch %d", got)
		}
	}
}

// Mo1: Ask takes the changes at the edges of those that may be.
func TestAskAtTheEdges(t *testing.T) {
	w := newWorld(t, 3)
	far := api.Osd{Id: 999, Up: true, In: true, Weight: api.MaxWeight, Life: math.MaxInt32, Boot: math.MaxInt32, Host: 999, Rack: 999}
	l := []api.Change{
		{Kind: api.ChangeAdd, Osd: far}, add(0), up(0, 1, 1), up(0, math.MaxInt32, math.MaxInt32),
		weight(999, 0), weight(0, api.MaxWeight), of(api.ChangeDown, 999), of(api.ChangeOut, 999), of(api.ChangeIn, 0),
	}
	for _, c := range l {
		if e := w.ask(1, c); e != api.OK {
			t.Fatalf("Ask of %v: error %d", c, e)
		}
	}
	w.rounds(15, 0, 1, 2)
	w.rest(0, 1, 2)
	far.Up, far.In, far.Weight = false, false, 0
	near := api.Osd{Id: 0, Up: true, In: true, Weight: api.MaxWeight, Life: math.MaxInt32, Boot: math.MaxInt32}
	if m, ok := w.mons[2].Map(9); !ok || !slices.Equal(m.Osds, []api.Osd{near, far}) {
		t.Errorf("%v, %v", m, ok)
	}
}

// Mo1: with a monitor 256 changes wait at most: ErrFull of one more; ErrArg still, if
// that may not be (R2). A crash makes room, and so do decrees.
func TestAskWhereTooManyWait(t *testing.T) {
	for _, n := range []int{1, 2, 7} {
		w := newWorld(t, n)
		full := func() {
			for i := range api.MaxPending {
				if e := w.ask(0, weight(1, i)); e != api.OK {
					t.Fatalf("the %d-th Ask: error %d", i+1, e)
				}
			}
			for range 3 {
				if e := w.mons[0].Ask(weight(1, 7)); e != api.ErrFull {
					t.Fatalf("Ask where all wait: error %d", e)
				}
				if e := w.mons[0].Ask(api.Change{}); e != api.ErrArg {
					t.Fatalf("Ask of nothing where all wait: error %d", e)
				}
			}
			if got := w.mons[0].Pending(); got != api.MaxPending {
				t.Fatalf("%d wait", got)
			}
		}
		full()
		w.crash(0)
		w.ask(n-1, add(1))
		w.blind = true
		w.rounds(4, w.all()...)
		w.rest(w.all()...)
		full()
		w.rounds(300, w.all()...)
		w.rest(w.all()...)
		// The first of the weights is the one that the OSD has already.
		if got := w.mons[n-1].Epoch(); got != api.MaxPending {
			t.Errorf("of %d: epoch %d", n, got)
		}
		if e := w.mons[0].Ask(weight(1, 7)); e != api.OK {
			t.Errorf("Ask where nothing waits: error %d", e)
		}
	}
}

// Mo1: changes of each kind, asked of one monitor or of all in turn: the map of each
// epoch, as the names of the changes say.
func TestChangesOfEachKind(t *testing.T) {
	l := []api.Change{
		{Kind: api.ChangeAdd, Osd: api.Osd{Id: 5, In: true, Weight: api.One, Host: 2, Rack: 1}},
		add(3), up(5, 8, 1), weight(3, 77), of(api.ChangeIn, 3), of(api.ChangeDown, 5), of(api.ChangeOut, 5), up(5, 8, 2),
	}
	five := api.Osd{Id: 5, In: true, Weight: api.One, Host: 2, Rack: 1}
	three := api.Osd{Id: 3}
	want := [][]api.Osd{nil, {five}, {three, five}}
	five.Up, five.Life, five.Boot = true, 8, 1
	want = append(want, []api.Osd{three, five})
	three.Weight = 77
	want = append(want, []api.Osd{three, five})
	three.In = true
	want = append(want, []api.Osd{three, five})
	five.Up = false
	want = append(want, []api.Osd{three, five})
	five.In = false
	want = append(want, []api.Osd{three, five})
	five.Up, five.Boot = true, 2
	want = append(want, []api.Osd{three, five})
	for _, n := range sizes {
		for _, turns := range []bool{false, true} {
			w := newWorld(t, n)
			for i, c := range l {
				id := n - 1
				if turns {
					id = i % n
				}
				w.ask(id, c)
				w.rounds(5, w.all()...)
			}
			w.rest(w.all()...)
			for id, x := range w.mons {
				for epoch, osds := range want {
					m, ok := x.Map(epoch)
					if !ok || m.Epoch != epoch || m.Pool != pool || !slices.Equal(m.Osds, osds) {
						t.Errorf("%d of %d: at epoch %d %v, %v, and not %v", id, n, epoch, m, ok, osds)
					}
				}
				if got := x.Changes(); !slices.Equal(got, l) || x.Epoch() != 8 {
					t.Errorf("%d of %d: epoch %d, changes %v", id, n, x.Epoch(), got)
				}
			}
		}
	}
}

// Mo1: changes that the map refuses turn nothing, and make no epoch: they are decrees,
// and wait no more.
func TestRefusedChanges(t *testing.T) {
	first := []api.Change{add(1), add(2), up(1, 4, 1), of(api.ChangeIn, 1), weight(2, 9)}
	refused := []api.Change{
		add(1), add(2), // there is such an Id
		{Kind: api.ChangeAdd, Osd: api.Osd{Id: 3, Rack: 1}}, // its Host is in another Rack
		up(7, 1, 1), weight(7, 1), of(api.ChangeDown, 7), of(api.ChangeIn, 0), of(api.ChangeOut, 999), // there is no such Id
		up(1, 4, 1), of(api.ChangeDown, 2), of(api.ChangeIn, 1), of(api.ChangeOut, 2), weight(2, 9), weight(1, 0), // turn nothing
	}
	for _, n := range []int{1, 2, 3, 5} {
		for _, between := range []bool{false, true} {
			w := newWorld(t, n)
			w.blind = !between
			for _, c := range first {
				w.ask(0, c)
			}
			w.rounds(10, w.all()...)
			for i, c := range refused {
				w.ask(i%n, c)
				if between {
					w.rounds(3, w.all()...)
				}
			}
			w.rounds(30, w.all()...)
			w.ask(n-1, weight(2, 10))
			w.rounds(5, w.all()...)
			w.rest(w.all()...)
			want := append(slices.Clone(first), weight(2, 10))
			for id, x := range w.mons {
				if got := x.Changes(); !slices.Equal(got, want) || x.Epoch() != len(want) {
					t.Errorf("%d of %d: epoch %d, changes %v", id, n, x.Epoch(), got)
				}
				if got := x.node.Len(); got != len(first)+len(refused)+1 {
					t.Errorf("%d of %d: %d decrees", id, n, got)
				}
			}
			for _, e := range []api.Errno{api.ErrArg, api.ErrNone, api.ErrSame} {
				if w.told[e] == 0 {
					t.Errorf("none told error %d", e)
				}
			}
		}
	}
}

// Mo1: of 65 OSDs the last one is refused, and what comes behind it is done.
func TestOneOsdTooMany(t *testing.T) {
	w := newWorld(t, 2)
	w.blind = true
	for id := range api.MaxOsds + 1 {
		w.ask(0, add(2*id))
	}
	w.ask(0, weight(2*api.MaxOsds, 1))
	w.ask(0, weight(2, 1))
	w.rounds(80, 0, 1)
	w.rest(0, 1)
	if got := w.mons[1].Epoch(); got != api.MaxOsds+1 || w.told[api.ErrFull] != 1 || w.told[api.ErrNone] != 1 {
		t.Errorf("epoch %d, told %v", got, w.told)
	}
	if m, _ := w.mons[1].Map(api.MaxOsds + 1); len(m.Osds) != api.MaxOsds || m.Osds[1].Weight != 1 {
		t.Errorf("map %v", m)
	}
}

// Mo1: Map is that of each epoch from 0 on up to the last one, and of no other, however
// many there are.
func TestMapOfEachEpoch(t *testing.T) {
	x := newMonitor(t, 0, 1, pool)
	m := api.Map{Pool: pool}
	want := []api.Map{m}
	n := numbers(3)
	for len(want) <= 1500 {
		for range 1 + n.below(40) {
			c := anyChange(n.below)
			x.Ask(c)
			if next, e := atlas.Apply(m, c); e == api.OK {
				m = next
				want = append(want, m)
			}
		}
		x.Tick()
		last := len(want) - 1
		for _, epoch := range []int{last, 0, n.below(last + 1), max(0, last-1)} {
			if got, ok := x.Map(epoch); !ok || !atlas.Same(got, want[epoch]) {
				t.Fatalf("at epoch %d %v, %v, and not %v", epoch, got, ok, want[epoch])
			}
		}
		for _, epoch := range []int{-1, last + 1, last + 2, math.MinInt, math.MaxInt} {
			if got, ok := x.Map(epoch); ok || !zeroMap(got) {
				t.Fatalf("at epoch %d %v, %v", epoch, got, ok)
			}
		}
	}
	for epoch := range want {
		if got, ok := x.Map(epoch); !ok || !atlas.Same(got, want[epoch]) {
			t.Fatalf("at epoch %d %v, %v, and not %v", epoch, got, ok, want[epoch])
		}
	}
}

// Mo1: whatever is asked for first, Epoch, Map or Changes, tells the last there is: of
// one that learned much since it was asked last.
func TestEachCallTellsTheLast(t *testing.T) {
	for first := range 3 {
		w := newWorld(t, 3)
		w.blind = true
		for i := range 10 {
			w.ask(i%2, add(i))
			w.ask(i%2, add(i))
		}
		w.rounds(40, 0, 1)
		w.rounds(4, 0, 1, 2)
		x := w.mons[2]
		switch first {
		case 0:
			if got := x.Epoch(); got != 10 {
				t.Errorf("epoch %d", got)
			}
		case 1:
			if m, ok := x.Map(10); !ok || len(m.Osds) != 10 {
				t.Errorf("map %v, %v", m, ok)
			}
		default:
			if l := x.Changes(); len(l) != 10 {
				t.Errorf("changes %v", l)
			}
		}
		w.rest(0, 1, 2)
	}
}

// Mo1, Mo2: a crash loses what waits; the maps, the changes and the Epoch stay, and it
// goes on from there.
func TestCrash(t *testing.T) {
	for _, n := range sizes {
		for _, looked := range []bool{false, true} {
			w := newWorld(t, n)
			w.blind = !looked
			w.ask(0, add(1))
			w.ask(n-1, add(2))
			w.rounds(6, w.all()...)
			for id := range n {
				w.ask(id, add(3+id))
			}
			for range 2 {
				for id := range n {
					w.crash(id)
				}
			}
			w.rounds(5, w.all()...)
			w.rest(w.all()...)
			if got := w.mons[0].Epoch(); got != 2 {
				t.Fatalf("of %d: epoch %d", n, got)
			}
			w.ask(0, weight(2, 5))
			w.rounds(5, w.all()...)
			w.rest(w.all()...)
			if m, ok := w.mons[n-1].Map(3); !ok || !slices.Equal(m.Osds, []api.Osd{{Id: 1}, {Id: 2, Weight: 5}}) {
				t.Fatalf("of %d: map %v, %v", n, m, ok)
			}
		}
	}
}

// Mo1: Receive tells ErrArg of one that there is not, and of itself, ErrText of bytes
// that are no message; the first of these, where both are so (R2). Nothing has turned.
func TestReceiveOfNoMessage(t *testing.T) {
	for _, n := range []int{1, 2, 3, 7} {
		w := newWorld(t, n)
		strangers := []int{math.MinInt, -1, 0, n, n + 1, 1000, math.MaxInt}
		junk := []string{"", "\x00", "junk", string(make([]byte, 100)), string(make([]byte, api.MaxBytes))}
		for range 2 {
			for _, from := range strangers {
				for _, b := range junk {
					w.hand(0, from, b, api.ErrArg)
				}
				for _, p := range w.sent {
					w.hand(0, from, p.data, api.ErrArg)
				}
			}
			for from := 1; from < n; from++ {
				for _, b := range junk {
					w.hand(0, from, b, api.ErrText)
				}
				for _, p := range w.sent {
					w.hand(0, from, p.data+"\x00", api.ErrText)
					w.hand(0, from, p.data[1:], api.ErrText)
					w.hand(0, from, p.data[:len(p.data)-1], api.ErrText)
				}
			}
			w.ask(0, add(1))
			w.rounds(4, w.all()...)
			w.rest(w.all()...)
		}
	}
}

// nobodies is Monitors that New did not give.
func nobodies(t *testing.T) []*monitor.Monitor {
	node, e := paxos.New(0, 1)
	if e != api.OK {
		t.Fatalf("paxos.New: error %d", e)
	}
	return []*monitor.Monitor{nil, {}, new(monitor.Monitor), {Node: node}, {Node: new(paxos.Node)}}
}

// Mo1: a Monitor that New did not give tells ErrArg, nothing, 0 and false, whatever was
// asked of it ahead.
func TestNobodysMonitor(t *testing.T) {
	other := newMonitor(t, 1, 3, pool)
	var letter []byte
	for range 3 {
		for _, m := range other.Tick() {
			if m.To == 0 {
				letter = m.Data
			}
		}
	}
	for i, x := range nobodies(t) {
		for range 2 {
			for _, c := range append(wrong()[:3], add(1), up(1, 1, 1), weight(1, 1)) {
				if e := x.Ask(c); e != api.ErrArg {
					t.Errorf("nobody %d: Ask of %v: error %d", i, c, e)
				}
			}
			if l := x.Tick(); len(l) != 0 {
				t.Errorf("nobody %d: Tick sends %v", i, l)
			}
			for _, from := range []int{-1, 0, 1, 7} {
				for _, b := range [][]byte{nil, {}, []byte("junk"), letter} {
					if l, e := x.Receive(from, b); e != api.ErrArg || len(l) != 0 {
						t.Errorf("nobody %d: Receive: %v, error %d", i, l, e)
					}
				}
			}
			if x.Epoch() != 0 || x.Pending() != 0 || len(x.Changes()) != 0 {
				t.Errorf("nobody %d: epoch %d, %d wait, changes %v", i, x.Epoch(), x.Pending(), x.Changes())
			}
			for _, epoch := range []int{math.MinInt, -1, 0, 1, math.MaxInt} {
				if m, ok := x.Map(epoch); ok || !zeroMap(m) {
					t.Errorf("nobody %d: at epoch %d %v, %v", i, epoch, m, ok)
				}
			}
			x.Crash()
		}
	}
}
