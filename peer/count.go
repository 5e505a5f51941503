package peer

import (
	"slices"

	"mooring/api"
)

// count is the infos that count for an interval, by the list's order.
func count(x api.Interval, infos []api.Info) []api.Info {
	var out []api.Info
	for _, i := range infos {
		// One that has no place does not stand in the way of another of its OSD behind it.
		told := slices.ContainsFunc(out, func(o api.Info) bool { return o.Osd == i.Osd })
		if !told && hasPlace(x, i) {
			out = append(out, i)
		}
	}
	return out
}

// state is an interval's state as infos that count for it tell it; false: too few have it.
func state(x api.Interval, counting []api.Info, k int) (api.Choice, bool) {
	var heads []int
	for _, i := range counting {
		if head, ok := Has(x, i); ok {
			heads = append(heads, head)
		}
	}
	if len(heads) < k {
		return api.Choice{}, false
	}
	slices.Sort(heads)
	head := heads[len(heads)-k]
	return api.Choice{Kind: api.ChoiceState, Since: x.From, Head: head, Whence: whence(x, counting, head)}, true
}

// whence is the OSDs of the infos that have an interval up to an entry or further, rising.
func whence(x api.Interval, infos []api.Info, least int) []int {
	var out []int
	for _, i := range infos {
		if head, ok := Has(x, i); ok && head >= least {
			out = append(out, i.Osd)
		}
	}
	slices.Sort(out)
	return out
}

// anyLacks says whether one of some infos lacks an interval.
func anyLacks(x api.Interval, infos []api.Info) bool {
	return slices.ContainsFunc(infos, func(i api.Info) bool { return Lacks(x, i) })
}
