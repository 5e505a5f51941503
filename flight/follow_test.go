package flight_test

import (
	"math"
	"strconv"
	"testing"
)

// Fl1, Fl2: any deeds in many orders, held against all that was ever done.
func TestManyOrders(t *testing.T) {
	n := numbers(10)
	nodes := []int{0, 1, 2, -1, math.MaxInt, math.MinInt}
	var done, refused [deeds]int
	for range 300 {
		b := newBoth(t, nodes...)
		for range 60 {
			d := n.deed(nodes, b.f.Len())
			if x := b.do(d); x.ok || x.count > 0 {
				done[d.kind]++
			} else {
				refused[d.kind]++
			}
			b.look()
		}
	}
	for _, kind := range []int{doPost, doDeliver, doDrop, doTwice, doClear} {
		if done[kind] < 100 || kind != doPost && refused[kind] < 100 {
			t.Errorf("deed %d was done %d times alone, and not done %d times", kind, done[kind], refused[kind])
		}
	}
}

// Fl1, Fl2: each order of few deeds.
func TestEveryOrder(t *testing.T) {
	choices := []deed{
		{kind: doPost, a: 1, b: 2, text: "a"},
		{kind: doPost, a: 2, b: 1, text: "b"},
		{kind: doPost, a: 2, b: 2},
		{kind: doDeliver, a: 0},
		{kind: doDeliver, a: 1},
		{kind: doDrop, a: 0},
		{kind: doTwice, a: 0},
		{kind: doPart, a: 1, b: 2},
		{kind: doPart, a: 2, b: 2},
		{kind: doHeal},
		{kind: doClear, a: 2},
	}
	const length = 5
	orders := 1
	for range length {
		orders *= len(choices)
	}
	for order := range orders {
		b := newBoth(t, 1, 2)
		for rest := order; len(b.slow.done) < length; rest /= len(choices) {
			b.do(choices[rest%len(choices)])
		}
		b.look()
	}
}

// Fl1, Fl2: the same at the limit, where there is often no room.
func TestManyOrdersAtTheLimit(t *testing.T) {
	n := numbers(30)
	nodes := []int{1, 2, 3}
	b := newBoth(t, nodes...)
	for _, x := range crowd(most - 3) {
		post(t, b.f, x)
		b.slow.traces = append(b.slow.traces, trace{letter: x})
	}
	full := 0
	for range 400 {
		d := n.deed(nodes, b.f.Len())
		if d.kind == doClear {
			d.a = 9 // else there would be room at once, and for long
		}
		if !b.do(d).ok && b.f.Len() == most && (d.kind == doPost || d.kind == doTwice) {
			full++
		}
	}
	b.look()
	if full < 30 {
		t.Errorf("there was no room %d times alone", full)
	}
}

// tally counts what became of one message.
type tally struct {
	sent      letter
	came      int // how often it was posted and doubled
	delivered int
}

// Fl3: each message has a text of its own: what is delivered was posted so, and no
// more often than it was posted and doubled; and what is neither delivered nor lost
// is on its way.
func TestNothingComesThatWasNotPosted(t *testing.T) {
	n := numbers(77)
	nodes := []int{1, 2, 3, 4}
	delivered, doubled := 0, 0
	for range 100 {
		f := newFlight(t)
		tallies := map[string]*tally{}
		came, went := 0, 0
		for i := range 200 {
			d := n.deed(nodes, f.Len())
			if d.kind == doPost {
				d.text = strconv.Itoa(i)
				tallies[d.text] = &tally{sent: letter{d.a, d.b, d.text}}
			}
			_, _, looked, _ := f.Look(d.a)
			was := f.Len()
			x := d.do(f)
			switch {
			case x.ok && d.kind == doPost:
				tallies[d.text].came++
			case x.ok && d.kind == doTwice:
				tallies[string(looked)].came++
				doubled++
			case x.ok && d.kind == doDeliver:
				c := tallies[x.text]
				if c == nil || c.sent != x.letter {
					t.Fatalf("%v is delivered, and was not posted", x.letter)
				}
				if c.delivered++; c.delivered > c.came {
					t.Fatalf("%v came %d times, and is delivered %d times", x.letter, c.came, c.delivered)
				}
				delivered++
			}
			came += max(f.Len()-was, 0)
			went += max(was-f.Len(), 0)
		}
		for f.Len() > 0 {
			f.Heal()
			from, to, b, ok := f.Deliver(n.below(f.Len()))
			c := tallies[string(b)]
			if !ok || c == nil || c.sent != (letter{from, to, string(b)}) {
				t.Fatalf("%d, %d, %q and %v is delivered", from, to, b, ok)
			}
			c.delivered++
			went++
		}
		posted := 0
		for _, c := range tallies {
			if posted += c.came; c.delivered > c.came {
				t.Fatalf("%v came %d times, and is delivered %d times", c.sent, c.came, c.delivered)
			}
		}
		if posted != came || came != went {
			t.Fatalf("%d were posted and doubled, %d came, %d went", posted, came, went)
		}
	}
	if delivered < 1000 || doubled < 1000 {
		t.Errorf("%d delivered and %d doubled alone", delivered, doubled)
	}
}

// Fl3: where nothing is lost, each comes just as often as it was posted and
// doubled, in whichever order one delivers.
func TestAllComesThatIsNotLost(t *testing.T) {
	n := numbers(5)
	for range 50 {
		f := newFlight(t)
		want, got := map[letter]int{}, map[letter]int{}
		for i := range 40 {
			x := letter{n.below(3), n.below(3), strconv.Itoa(i % 30)}
			post(t, f, x)
			want[x]++
			at := n.below(f.Len())
			from, to, b, _ := f.Look(at)
			if n.below(2) == 0 && f.Twice(at) {
				want[letter{from, to, string(b)}]++
			}
		}
		for f.Len() > 0 {
			from, to, b, ok := f.Deliver(n.below(f.Len()))
			if !ok {
				t.Fatal("one is lost")
			}
			got[letter{from, to, string(b)}]++
		}
		if len(got) != len(want) {
			t.Fatalf("%d messages came, and not %d", len(got), len(want))
		}
		for x, count := range want {
			if got[x] != count {
				t.Fatalf("%v came %d times, and not %d", x, got[x], count)
			}
		}
	}
}

// R4: the same calls tell the same.
func TestAlwaysTheSame(t *testing.T) {
	nodes := []int{1, 2, 3, 4, 5, 6, 7, 8}
	run := func() (out []told) {
		n, f := numbers(8), newFlight(t)
		for range 2000 {
			out = append(out, n.deed(nodes, f.Len()).do(f))
		}
		return out
	}
	first := run()
	for range 3 {
		for i, x := range run() {
			if x != first[i] {
				t.Fatalf("call %d tells %v, and not %v", i, x, first[i])
			}
		}
	}
}

// Fl1, Fl2, Fl3: any bytes, taken as deeds.
func FuzzDeeds(f *testing.F) {
	f.Add([]byte{0, 0, 16, 1, 3, 0})
	f.Add([]byte{0, 18, 4, 36, 64, 1, 65, 32, 80, 1, 96, 2, 200, 201})
	f.Fuzz(func(t *testing.T, script []byte) {
		if len(script) > 200 {
			return
		}
		b := newBoth(t, 0, 1, 2, 3)
		for i := 0; i+1 < len(script); i += 2 {
			kind, v := int(script[i])%deeds, int(script[i+1])
			d := deed{kind: kind, a: v - 1, b: v % 4}
			if kind == doPost || kind == doPart || kind == doClear {
				d.a = v / 4 % 4
			}
			if kind == doPost {
				d.text = string(script[i : i+v%3])
			}
			b.do(d)
			b.look()
		}
	})
}
