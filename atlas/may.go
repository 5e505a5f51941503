package atlas

import (
	"slices"

	"mooring/api"
)

// The greatest numbers that an OSD may have: lastId as its Id, Host and Rack, lastTime
// as its Life and Boot.
const (
	lastId   = 999
	lastTime = 1<<31 - 1
)

// Check tells why a map may not be.
func Check(m api.Map) api.Errno {
	if !within(m.Epoch, 0, api.MaxEpoch) || !poolMay(m.Pool) || !osdsMay(m.Osds) {
		return api.ErrArg
	}
	return api.OK
}

// CheckChange tells why a change may not be.
func CheckChange(c api.Change) api.Errno {
	if !within(c.Kind, 1, api.ChangeKinds-1) || !kinds()[c.Kind].may(c.Osd) {
		return api.ErrArg
	}
	return api.OK
}

// poolMay says whether a pool may be.
func poolMay(p api.Pool) bool {
	// What K leaves for M is looked at, and not their sum: that may be above all numbers.
	return p.K >= 1 && within(p.M, 1, api.MaxShards-p.K) &&
		within(p.Pgs, 1, api.MaxPgs) && within(p.Domain, 0, api.Domains-1)
}

// osdMay says whether an OSD may be.
func osdMay(o api.Osd) bool {
	least := 0
	if o.Up {
		least = 1
	}
	return within(o.Id, 0, lastId) && within(o.Host, 0, lastId) && within(o.Rack, 0, lastId) &&
		within(o.Weight, 0, api.MaxWeight) && within(o.Life, least, lastTime) && within(o.Boot, least, lastTime)
}

// osdsMay says whether OSDs may be those of a map.
func osdsMay(l []api.Osd) bool {
	if len(l) > api.MaxOsds {
		return false
	}
	for i, o := range l {
		if !osdMay(o) || i > 0 && o.Id <= l[i-1].Id || moved(l[:i], o) {
			return false
		}
	}
	return true
}

// moved says whether some of a list are on an OSD's Host in another Rack.
func moved(l []api.Osd, o api.Osd) bool {
	return slices.ContainsFunc(l, func(x api.Osd) bool { return x.Host == o.Host && x.Rack != o.Rack })
}

// within says whether n is from least to most.
func within(n, least, most int) bool { return least <= n && n <= most }
