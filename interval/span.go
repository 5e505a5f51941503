package interval

import (
	"iter"
	"slices"

	"mooring/api"
	"mooring/atlas"
	"mooring/place"
)

// maxMaps is how many maps may be, one behind the other.
const maxMaps = 4096

// mapsMay says whether maps are one behind the other, and their pool has a placement
// group.
func mapsMay(l []api.Map, pg int) bool {
	if len(l) < 1 || len(l) > maxMaps || pg < 0 || pg >= l[0].Pool.Pgs {
		return false
	}
	for i, m := range l {
		if atlas.Check(m) != api.OK || m.Pool != l[0].Pool || m.Epoch != l[0].Epoch+i {
			return false
		}
	}
	return true
}

// backward is the intervals of maps that may be, the last one first: so who asks for the
// last one alone need not wait for all that were ahead of it.
func backward(l []api.Map, pg int) iter.Seq[api.Interval] {
	return func(yield func(api.Interval) bool) {
		last := len(l) - 1
		x := moment(l[last], pg)
		for _, m := range slices.Backward(l[:last]) {
			ahead := moment(m, pg)
			if alike(ahead, x) {
				x.From = m.Epoch
				continue
			}
			if !yield(x) {
				return
			}
			x = ahead
		}
		yield(x)
	}
}

// moment is who keeps a placement group by one map, as an interval of that epoch alone.
//
// Lives, boots and the primary are layer 18's, but not asked for there: each of its calls
// would choose anew who is to keep it, and nearly all the time goes by with that.
func moment(m api.Map, pg int) api.Interval {
	acting, _ := place.Acting(m, pg)
	x := api.Interval{
		From:    m.Epoch,
		To:      m.Epoch,
		Acting:  acting,
		Lives:   make([]int, len(acting)),
		Boots:   make([]int, len(acting)),
		Primary: api.Hole,
	}
	for i, id := range acting {
		// No map has a Hole as an OSD: its life and boot are 0.
		o, _ := atlas.Find(m, id)
		x.Lives[i], x.Boots[i] = o.Life, o.Boot
		if x.Primary == api.Hole {
			x.Primary = id
		}
	}
	return x
}

// alike says whether the same ones keep a placement group.
func alike(x, y api.Interval) bool {
	return slices.Equal(x.Acting, y.Acting) && slices.Equal(x.Lives, y.Lives) && slices.Equal(x.Boots, y.Boots)
}
