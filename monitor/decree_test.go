package monitor_test

import (
	"slices"
	"testing"

	"mooring/api"
	"mooring/atlas"
	"mooring/paxos"
	"mooring/wire"
)

// noChanges is values that are no change's bytes: other ones', those of changes that
// may not be, and those of changes in another form.
func noChanges(t *testing.T) [][]byte {
	t.Helper()
	whole, e := atlas.EncodeChange(add(9))
	if e != api.OK {
		t.Fatalf("EncodeChange: error %d", e)
	}
	picture, e := atlas.Encode(api.Map{Pool: pool, Osds: []api.Osd{{Id: 9}}})
	if e != api.OK {
		t.Fatalf("Encode: error %d", e)
	}
	out := [][]byte{nil, {0}, {1}, []byte("junk"), make([]byte, api.MaxValue), picture}
	out = append(out, append(slices.Clone(whole), 0), append([]byte{0}, whole...))
	for i := range whole {
		out = append(out, whole[:i])
	}
	row := func(l ...uint64) {
		var b []byte
		for _, n := range l {
			b = wire.Uvarint(b, n)
		}
		out = append(out, b)
	}
	row(0, 9, 0, 0, 0, 0, 0, 0, 0)
	row(api.ChangeKinds, 9, 0, 0, 0, 0, 0, 0, 0)
	row(api.ChangeAdd, 1000, 0, 0, 0, 0, 0, 0, 0)
	row(api.ChangeAdd, 9, 2, 0, 0, 0, 0, 0, 0)
	row(api.ChangeAdd, 9, 1, 0, 0, 0, 0, 0, 0)
	row(api.ChangeAdd, 9, 0, 0, api.MaxWeight+1, 0, 0, 0, 0)
	row(api.ChangeUp, 1, 0, 0, 0, 0, 1, 0, 0)
	row(api.ChangeDown, 1, 0, 0, 0, 1, 1, 0, 0)
	row(api.ChangeWeight, 1<<63, 0, 0, 1, 0, 0, 0, 0)
	long := []byte{api.ChangeAdd, 0x89, 0} // 9, with a byte too many
	out = append(out, append(long, whole[2:]...))
	return out
}

// Words: a decree that is no change's bytes turns nothing, and makes no epoch; those
// behind it are done. (One comes of a node that is asked to propose it.)
func TestDecreesThatAreNoChange(t *testing.T) {
	for _, n := range []int{2, 3, 5} {
		for _, looked := range []bool{false, true} {
			w := newWorld(t, n)
			w.blind = !looked
			last := w.mons[n-1]
			propose := func(v []byte) {
				for _, x := range []*paxos.Node{last.node, last.Node} {
					if e := x.Propose(v); e != api.OK {
						t.Fatalf("Propose of %x: error %d", v, e)
					}
				}
			}
			w.ask(0, add(1))
			w.rounds(5, w.all()...)
			l := noChanges(t)
			for i, v := range l {
				propose(v)
				if i%5 == 0 {
					w.ask(i%n, weight(1, 1+i))
				}
				w.rounds(i%3, w.all()...)
			}
			w.rounds(60, w.all()...)
			w.rest(w.all()...)
			asked := (len(l) + 4) / 5
			for id, x := range w.mons {
				if x.Epoch() != 1+asked || x.node.Len() != 1+asked+len(l) {
					t.Errorf("%d of %d: epoch %d, %d decrees, and %d asked", id, n, x.Epoch(), x.node.Len(), asked)
				}
				m, _ := x.Map(x.Epoch())
				if len(m.Osds) != 1 || m.Osds[0].Id != 1 {
					t.Errorf("%d of %d: map %v", id, n, m)
				}
			}
		}
	}
}

// Words: a monitor is layer 12's: among nodes that propose changes' bytes it has the
// maps that these make, and they know what was asked of it.
func TestAMonitorAmongNodes(t *testing.T) {
	for _, n := range []int{2, 3, 7} {
		for which := range n {
			x := newMonitor(t, which, n, pool)
			nodes := make([]node, n)
			for id := range n {
				nodes[id] = x
				if id != which {
					other, e := paxos.New(id, n)
					if e != api.OK {
						t.Fatalf("paxos.New: error %d", e)
					}
					b, _ := atlas.EncodeChange(add(id))
					if e := other.Propose(b); e != api.OK {
						t.Fatalf("Propose: error %d", e)
					}
					nodes[id] = other
				}
			}
			if e := x.Ask(add(which)); e != api.OK {
				t.Fatalf("Ask: error %d", e)
			}
			plainRounds(t, nodes, 30)
			m, ok := x.Map(n)
			if !ok || x.Epoch() != n || len(m.Osds) != n || x.Pending() != 0 {
				t.Errorf("%d of %d: epoch %d, map %v", which, n, x.Epoch(), m)
			}
			for id, other := range nodes {
				y, ok := other.(*paxos.Node)
				if !ok {
					continue
				}
				var l []api.Change
				for i := range y.Len() {
					b, _ := y.Get(i + 1)
					c, e := atlas.DecodeChange(b)
					if e != api.OK {
						t.Errorf("%d of %d: error %d of %x", id, n, e, b)
					}
					l = append(l, c)
				}
				if !slices.Equal(l, x.Changes()) {
					t.Errorf("%d of %d knows %v, and the monitor has %v", id, n, l, x.Changes())
				}
			}
		}
	}
}

// node is what monitors and nodes have in common.
type node interface {
	Tick() []api.Mail
	Receive(from int, b []byte) ([]api.Mail, api.Errno)
}

// plainRounds is rounds at which nothing is looked at.
func plainRounds(t testing.TB, l []node, count int) {
	t.Helper()
	var way []parcel
	post := func(from int, l []api.Mail) {
		for _, m := range l {
			way = append(way, parcel{from, m.To, string(m.Data)})
		}
	}
	for range count {
		for id, x := range l {
			post(id, x.Tick())
		}
		for len(way) > 0 {
			p := way[0]
			way = way[1:]
			more, e := l[p.to].Receive(p.from, []byte(p.data))
			if e != api.OK {
				t.Fatalf("Receive: error %d", e)
			}
			post(p.to, more)
		}
	}
}

// The section Ways: a monitor's node is in itself, and its calls are its own: what is
// proposed so is a decree as others are, and turns nothing, if it is no change's bytes.
func TestTheNodesCallsAreItsOwn(t *testing.T) {
	x := newMonitor(t, 0, 1, pool)
	b, _ := atlas.EncodeChange(add(2))
	for _, v := range [][]byte{[]byte("junk"), b, b, nil} {
		if e := x.Propose(v); e != api.OK {
			t.Fatalf("Propose of %x: error %d", v, e)
		}
	}
	if x.Pending() != 4 || x.Len() != 0 {
		t.Errorf("%d wait, %d decrees", x.Pending(), x.Len())
	}
	x.Tick()
	if v, ok := x.Get(2); x.Len() != 4 || !ok || string(v) != string(b) {
		t.Errorf("%d decrees, %x, %v", x.Len(), v, ok)
	}
	if l := x.Changes(); x.Epoch() != 1 || !slices.Equal(l, []api.Change{add(2)}) {
		t.Errorf("epoch %d, changes %v", x.Epoch(), l)
	}
}
