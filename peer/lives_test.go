package peer_test

import (
	"slices"
	"testing"

	"mooring/api"
	"mooring/atlas"
	"mooring/interval"
	"mooring/peer"
	"mooring/shard"
)

// A chooser is Choose, or one that is wrong.
type chooser func(l []api.Interval, infos []api.Info, k int) (api.Choice, api.Errno)

// A primary is one that was active at an interval, and what it did till then; it may go on
// when others peer already, as it does not know.
type primary struct {
	x   api.Interval
	log []api.Entry
}

// A world is some OSDs that keep one placement group, by layers 13, 19 and 21; who peers
// chooses by the choosers.
type world struct {
	n       *numbers
	k       int
	choose  chooser
	maps    []api.Map
	holders map[int]api.Holder
	lives   map[int]int
	staged  map[int]int // by From: how often somebody staged for it
	active  []*primary  // those that go on
	was     []api.Interval
	done    []api.Entry // what clients were told to be done
	tally   map[string]int
	broken  string
}

// newWorld is so many OSDs that are up and in, from epoch 1 on.
func newWorld(n *numbers, k, m, osds int, choose chooser) *world {
	w := &world{n: n, k: k, choose: choose, holders: map[int]api.Holder{}, lives: map[int]int{}, staged: map[int]int{}, tally: map[string]int{}}
	first := api.Map{Epoch: 1, Pool: api.Pool{K: k, M: m, Pgs: 1}}
	for id := range osds {
		w.lives[id] = 1
		first.Osds = append(first.Osds, api.Osd{Id: id, Up: true, In: true, Weight: api.One, Life: 1, Boot: 1, Host: id, Rack: id})
	}
	w.maps = []api.Map{first}
	return w
}

// step does something, or nothing.
func (w *world) step() {
	switch w.n.below(16) {
	case 0, 1:
		w.change()
	case 2:
		w.lose()
	case 3, 4, 5, 6:
		w.peer()
	case 7:
		w.commit()
	default:
		w.write()
	}
}

// change is one of the map; who comes up has the life of its disk.
func (w *world) change() {
	id := w.n.below(len(w.lives))
	last := w.maps[len(w.maps)-1]
	o, _ := atlas.Find(last, id)
	c := api.Change{Kind: api.ChangeAdd + 1 + w.n.below(4), Osd: api.Osd{Id: id}}
	if c.Kind == api.ChangeUp {
		c.Osd.Life, c.Osd.Boot = w.lives[id], o.Boot+1
	}
	if next, errno := atlas.Apply(last, c); errno == api.OK {
		w.maps = append(w.maps, next)
	}
}

// lose is an OSD's disk lost, unless too few were left of an interval that was active.
func (w *world) lose() {
	id := w.n.below(len(w.lives))
	for _, x := range w.was {
		left := 0
		for n, osd := range x.Acting {
			if osd != api.Hole && osd != id && x.Lives[n] == w.lives[osd] {
				left++
			}
		}
		if left < w.k && interval.Place(x, id, w.lives[id]) >= 0 {
			return
		}
	}
	w.tally["lost"]++
	w.lives[id]++
	w.holders[id] = api.Holder{}
}

// peer is one that asks some, chooses, and stages; it may be cut off at any time. Nobody
// stages twice for an interval, as one that was cut off is down, or not the primary.
func (w *world) peer() {
	x, errno := interval.Last(w.maps, 0)
	if errno != api.OK || !interval.Enough(x, w.k) || w.staged[x.From] > 0 {
		return
	}
	var infos []api.Info
	for id := range len(w.lives) {
		h, errno := shard.Ask(w.holders[id], x.From)
		if errno == api.OK && w.n.below(3) > 0 {
			w.holders[id] = h
			infos = append(infos, shard.Info(h, id, w.lives[id]))
		}
	}
	l, _ := interval.Before(w.maps, 0, x.From)
	c, errno := w.choose(l, infos, w.k)
	log, ok := w.taken(c, l)
	switch {
	case errno != api.OK:
		w.broken = "the choice is refused"
	case c.Kind == api.ChoiceWait:
		w.tally["wait"]++
	case !ok:
	case len(log) < len(w.done) || !slices.Equal(log[:len(w.done)], w.done):
		w.broken = "what was done is lost"
	default:
		w.stage(x, log)
	}
}

// taken is the entries of the state that is chosen, as all tell it from whom it is told.
func (w *world) taken(c api.Choice, l []api.Interval) ([]api.Entry, bool) {
	switch c.Kind {
	case api.ChoiceWait:
		return nil, false
	case api.ChoiceEmpty:
		if w.tally["empty"]++; len(w.was) > 0 {
			w.broken = "there was a state, and none is chosen"
		}
		return nil, true
	}
	if w.tally["state"]++; c.Since != l[0].From {
		w.tally["elder state"]++
	}
	if len(c.Whence) < w.k {
		w.broken = "too few tell the state"
		return nil, false
	}
	var log []api.Entry
	for n, id := range c.Whence {
		s, ok := shard.At(w.holders[id], c.Since)
		back, errno := shard.Back(s, c.Head)
		if !ok || errno != api.OK || n > 0 && !slices.Equal(back.Log, log) {
			w.broken = "a state that is not to be had"
			return nil, false
		}
		if log = back.Log; shard.Head(s) > c.Head {
			w.tally["taken back"]++
		}
	}
	return log, true
}

// stage stages on all that keep it; if nothing comes between, it is active.
func (w *world) stage(x api.Interval, log []api.Entry) {
	w.staged[x.From]++
	for place, id := range x.Acting {
		if id == api.Hole {
			continue
		}
		if w.n.below(10) == 0 || w.lives[id] != x.Lives[place] {
			return
		}
		h, errno := shard.Stage(w.holders[id], api.Shard{Place: place, Since: x.From, Log: log})
		if errno != api.OK {
			return
		}
		w.holders[id] = h
	}
	w.tally["active"]++
	w.active = append(w.active, &primary{x: x, log: log})
	w.was = append(w.was, x)
}

// each does something with all that keep a primary's interval; false: one refused it, or
// it was cut off, and is active no more.
func (w *world) each(p *primary, do func(h api.Holder) (api.Holder, api.Errno)) bool {
	for place, id := range p.x.Acting {
		if id == api.Hole {
			continue
		}
		h, errno := do(w.holders[id])
		if w.n.below(40) == 0 || w.lives[id] != p.x.Lives[place] || errno != api.OK {
			if errno == api.ErrOld {
				w.tally["refused"]++
			}
			w.active = slices.DeleteFunc(w.active, func(o *primary) bool { return o == p })
			return false
		}
		w.holders[id] = h
	}
	return true
}

// write is an entry of one that is active, or thinks so: if all have it, it is done.
func (w *world) write() {
	if len(w.active) == 0 {
		return
	}
	p := w.active[w.n.below(len(w.active))]
	e := api.Entry{Seq: len(p.log) + 1, Key: api.Key{Client: p.x.From, Seq: len(p.log)}, Name: "a", Size: w.n.below(9)}
	if !w.each(p, func(h api.Holder) (api.Holder, api.Errno) {
		return shard.Write(h, p.x.From, e, api.Chunk{Size: e.Size})
	}) {
		return
	}
	p.log = append(slices.Clone(p.log), e)
	if len(p.log) <= len(w.done) || !slices.Equal(p.log[:len(w.done)], w.done) {
		w.broken = "two primaries do unlike things"
		return
	}
	w.done = p.log
	w.tally["done"]++
}

// commit lets what is done be taken back no more, with some.
func (w *world) commit() {
	if len(w.active) > 0 {
		p := w.active[w.n.below(len(w.active))]
		w.each(p, func(h api.Holder) (api.Holder, api.Errno) { return shard.Commit(h, p.x.From, len(p.log)) })
	}
}

// runs are many worlds, and what came of all.
func runs(choose chooser, many int) (tally map[string]int, broken []string) {
	tally = map[string]int{}
	for seed := range many {
		n := numbers(seed)
		k := 1 + n.below(3)
		w := newWorld(&n, k, 1+n.below(2), k+1+n.below(4), choose)
		for turn := 0; turn < 200 && w.broken == ""; turn++ {
			w.step()
		}
		if w.broken != "" {
			broken = append(broken, w.broken)
		}
		for what, often := range w.tally {
			tally[what] += often
		}
	}
	return tally, broken
}

// Pe2, lived through: whoever asks whom, is cut off, goes on though others peer, or loses a
// disk: the state that is chosen has all that was done, and all that tell it tell the same.
func TestLives(t *testing.T) {
	tally, broken := runs(peer.Choose, 1500)
	if len(broken) > 0 {
		t.Errorf("%d are broken: %s", len(broken), broken[0])
	}
	for what, least := range map[string]int{"active": 2000, "done": 10000, "state": 2000, "elder state": 1000, "empty": 1000,
		"wait": 5000, "taken back": 400, "refused": 600, "lost": 5000} {
		if tally[what] < least {
			t.Errorf("%s: %d: too little was tested", what, tally[what])
		}
	}
}

// The lives above show it, if a choice is wrong.
func TestLivesShowWhatIsWrong(t *testing.T) {
	for what, wrong := range map[string]chooser{
		"it does not wait": func(l []api.Interval, infos []api.Info, k int) (api.Choice, api.Errno) {
			for ; len(l) > 0; l = l[1:] {
				if c, errno := peer.Choose(l[:1], infos, k); c.Kind == api.ChoiceState {
					return c, errno
				}
			}
			return api.Choice{Kind: api.ChoiceEmpty}, api.OK
		},
		"it waits for one fewer": func(l []api.Interval, infos []api.Info, k int) (api.Choice, api.Errno) {
			return peer.Choose(l, infos, max(1, k-1))
		},
		"it passes by the last": func(l []api.Interval, infos []api.Info, k int) (api.Choice, api.Errno) {
			return peer.Choose(l[min(1, len(l)):], infos, k)
		},
		"it does not look at lives": func(l []api.Interval, infos []api.Info, k int) (api.Choice, api.Errno) {
			l = slices.Clone(l)
			for n := range l {
				l[n].Lives = slices.Clone(l[n].Lives)
				for place, osd := range l[n].Acting {
					for _, i := range infos {
						if i.Osd == osd {
							l[n].Lives[place] = i.Life
						}
					}
				}
			}
			return peer.Choose(l, infos, k)
		},
		"it takes one entry too few": func(l []api.Interval, infos []api.Info, k int) (api.Choice, api.Errno) {
			c, errno := peer.Choose(l, infos, k)
			if c.Head > 0 {
				c.Head--
			}
			return c, errno
		},
	} {
		if _, broken := runs(wrong, 400); len(broken) == 0 {
			t.Errorf("%s: nothing shows it", what)
		}
	}
}
