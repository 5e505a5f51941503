package paxos

import (
	"fmt"
	"maps"
	"slices"
	"testing"

	"mooring/api"
)

// letter is a message that was sent: as nothing takes it from its way, it may come at
// any time, in any order, often or never.
type letter struct {
	from, to int
	data     string
}

// scene is three monitors, all that they ever sent, and how much of the plan is done:
// nodes and letters by their numbers in the book, so that scenes can be held against
// each other.
type scene struct {
	nodes   [3]int
	done    [3]int
	letters [8]uint64
}

func (s scene) has(letter int) bool { return s.letters[letter/64]>>(letter%64)&1 == 1 }

// outcome is what becomes of a monitor that does something, and what it sends.
type outcome struct {
	node    int
	letters []int
}

// book is all monitors and letters that there ever were, by their numbers, and what
// came of each with each.
type book struct {
	t        *testing.T
	nodes    []*Node
	byPrint  map[string]int
	letters  []letter
	byLetter map[letter]int
	given    map[[2]int]outcome // of a node and a letter
	planned  map[string]outcome // of a node and a deed
	plan     [3][]string
}

// What a plan says: a Tick, a crash, or (else) a value that is proposed.
const (
	doTick  = "tick"
	doCrash = "crash"
)

// clone is a Node that shares nothing with another one.
func clone(x *Node) *Node {
	y := *x
	y.decrees = slices.Clone(x.decrees)
	y.waiting = slices.Clone(x.waiting)
	y.acceptors = maps.Clone(x.acceptors)
	if x.bid != nil {
		b := *x.bid
		b.told = maps.Clone(x.bid.told)
		y.bid = &b
	}
	return &y
}

// node is a Node's number.
func (k *book) node(x *Node) int {
	text := fmt.Sprint(x.id, x.decrees, x.acceptors, x.serial, x.waiting)
	if x.bid != nil {
		text += fmt.Sprint(*x.bid)
	}
	if i, ok := k.byPrint[text]; ok {
		return i
	}
	k.byPrint[text] = len(k.nodes)
	k.nodes = append(k.nodes, x)
	return len(k.nodes) - 1
}

// outcome is what a Node has become, and what it sends.
func (k *book) outcome(x *Node, l []api.Mail) outcome {
	out := outcome{node: k.node(x)}
	for _, m := range l {
		if is, _ := decode(m.Data, x.id, x.n); is.kind == kindKnow {
			continue // how much one knows turns nobody's promises: that would be too much
		}
		p := letter{x.id, m.To, string(m.Data)}
		i, ok := k.byLetter[p]
		if !ok {
			i = len(k.letters)
			k.byLetter[p] = i
			k.letters = append(k.letters, p)
		}
		out.letters = append(out.letters, i)
	}
	return out
}

// give is what comes of a letter.
func (k *book) give(node, letter int) outcome {
	at := [2]int{node, letter}
	if out, ok := k.given[at]; ok {
		return out
	}
	x, p := clone(k.nodes[node]), k.letters[letter]
	l, e := x.Receive(p.from, []byte(p.data))
	if e != api.OK {
		k.t.Fatalf("%d told error %d of %x, that %d sent", p.to, e, p.data, p.from)
	}
	k.given[at] = k.outcome(x, l)
	return k.given[at]
}

// do is what comes of a deed of the plan.
func (k *book) do(node int, deed string) outcome {
	at := fmt.Sprint(node, deed)
	if out, ok := k.planned[at]; ok {
		return out
	}
	x := clone(k.nodes[node])
	var l []api.Mail
	switch deed {
	case doTick:
		l = x.Tick()
	case doCrash:
		x.Crash()
	default:
		x.Propose([]byte(deed))
	}
	k.planned[at] = k.outcome(x, l)
	return k.planned[at]
}

// with is a scene behind what a monitor did.
func (s scene) with(id int, o outcome) scene {
	s.nodes[id] = o.node
	for _, i := range o.letters {
		s.letters[i/64] |= 1 << (i % 64)
	}
	return s
}

// next goes through all scenes that can come next.
func (k *book) next(s scene, visit func(scene)) {
	for id := range s.nodes {
		if s.done[id] < len(k.plan[id]) {
			z := s.with(id, k.do(s.nodes[id], k.plan[id][s.done[id]]))
			z.done[id]++
			visit(z)
		}
	}
	for i, p := range k.letters {
		if s.has(i) {
			visit(s.with(p.to, k.give(s.nodes[p.to], i)))
		}
	}
}

// check looks whether one's decrees are the beginning of another's, and none is one
// twice; it tells how many there are.
func (k *book) check(s scene) int {
	var longest []decree
	for _, i := range s.nodes {
		if l := k.nodes[i].decrees; len(l) > len(longest) {
			longest = l
		}
	}
	for i, d := range longest {
		if slices.Index(longest, d) != i {
			k.t.Fatalf("%v is a decree twice: %v", d, longest)
		}
	}
	for id, i := range s.nodes {
		if l := k.nodes[i].decrees; !slices.Equal(l, longest[:len(l)]) {
			k.t.Fatalf("%d knows %v, and another one %v", id, l, longest)
		}
	}
	return len(longest)
}

// explore goes through all that can come of a plan, or through so much of it: from
// both ends, what comes of few steps, and what comes of many. It tells in how many
// scenes there were how many decrees, and whether that was all.
func explore(t *testing.T, plan [3][]string, limit int) (map[int]int, bool) {
	k := &book{t: t, byPrint: map[string]int{}, byLetter: map[letter]int{}, given: map[[2]int]outcome{}, planned: map[string]outcome{}, plan: plan}
	var first scene
	for id := range first.nodes {
		x, _ := New(id, len(first.nodes))
		first.nodes[id] = k.node(x)
	}
	decided, seen := map[int]int{}, map[scene]bool{first: true}
	todo := []scene{first}
	for i := 0; len(todo) > 0; i++ {
		if i == limit || len(k.letters) > 500 {
			return decided, false
		}
		s := todo[len(todo)-1]
		if i%2 == 0 {
			s, todo = todo[0], todo[1:]
		} else {
			todo = todo[:len(todo)-1]
		}
		decided[k.check(s)]++
		k.next(s, func(z scene) {
			if !seen[z] {
				seen[z] = true
				todo = append(todo, z)
			}
		})
	}
	return decided, true
}

// Pa3: all that can come of some plans is gone through, as far as it is not too much:
// each order of what is delivered, late or again, of Ticks and of crashes.
func TestAgreementInEveryRun(t *testing.T) {
	t.Parallel()
	for _, c := range []struct {
		plan [3][]string
		all  bool
	}{
		{[3][]string{{"a", doTick}, nil, {doCrash}}, true},
		{[3][]string{{"a", doTick, doCrash, "c", doTick}, nil, nil}, true},
		{[3][]string{{"a", doTick}, {"b", doTick}, nil}, false},
		{[3][]string{{"a", doTick, doTick}, {"b", doTick}, {doCrash}}, false},
		{[3][]string{{"a", doTick, doCrash, "a", doTick}, {"b", doTick}, nil}, false},
		{[3][]string{{"a", doTick}, {doCrash}, {"b", doTick, doCrash}}, false},
	} {
		decided, all := explore(t, c.plan, 150000)
		if all != c.all || decided[0] < 20 || decided[1] < 100 {
			t.Errorf("%v: by decrees there are %v, that is all: %v", c.plan, decided, all)
		}
	}
}
