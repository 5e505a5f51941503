package monitor

import (
	"slices"

	"mooring/api"
	"mooring/atlas"
)

// chain is maps, one behind the other. Only the last one is kept: those ahead of it
// follow from the changes.
type chain struct {
	read    int          // how many decrees it comes from
	changes []api.Change // those that were applied
	last    api.Map
}

// follow goes on with the next decree, which turns nothing, if it is no change's bytes
// or is refused.
func (l *chain) follow(decree []byte) {
	l.read++
	c, errno := atlas.DecodeChange(decree)
	if errno != api.OK {
		return
	}
	next, errno := atlas.Apply(l.last, c)
	if errno != api.OK {
		return
	}
	l.last = next
	l.changes = append(l.changes, c)
}

// at is an epoch's map; false: there is none yet.
func (l *chain) at(epoch int) (api.Map, bool) {
	if epoch < 0 || epoch > l.last.Epoch {
		return api.Map{}, false
	}
	if epoch < l.last.Epoch {
		// All of them were applied, so that each of them is an epoch.
		m, _, _ := atlas.Fold(l.last.Pool, l.changes[:epoch])
		return m, true
	}
	m := l.last
	m.Osds = slices.Clone(m.Osds)
	return m, true
}
