package atlas

import (
	"slices"

	"mooring/api"
)

// kind is how changes of one kind are done.
type kind struct {
	may func(o api.Osd) bool                  // whether that may be such a change's
	do  func(m *api.Map, o api.Osd) api.Errno // turns the map's OSDs, or nothing
}

// kinds is how they are done, each at its own number.
func kinds() [api.ChangeKinds]kind {
	return [api.ChangeKinds]kind{
		api.ChangeAdd:    {osdMay, add},
		api.ChangeUp:     {upMay, setUp},
		api.ChangeDown:   {idMay, setDown},
		api.ChangeIn:     {idMay, setIn},
		api.ChangeOut:    {idMay, setOut},
		api.ChangeWeight: {weightMay, setWeight},
	}
}

// upMay says whether it tells an Id, a Life and a Boot, that one that is up may have.
func upMay(o api.Osd) bool {
	return o == api.Osd{Id: o.Id, Life: o.Life, Boot: o.Boot} &&
		osdMay(api.Osd{Id: o.Id, Up: true, Life: o.Life, Boot: o.Boot})
}

// idMay says whether it tells an Id alone.
func idMay(o api.Osd) bool {
	return o == api.Osd{Id: o.Id} && osdMay(o)
}

// weightMay says whether it tells an Id and a Weight.
func weightMay(o api.Osd) bool {
	return o == api.Osd{Id: o.Id, Weight: o.Weight} && osdMay(o)
}

// add lets there be an OSD more.
func add(m *api.Map, o api.Osd) api.Errno {
	switch {
	case seat(m.Osds, o.Id) >= 0:
		return api.ErrSame
	case len(m.Osds) >= api.MaxOsds:
		return api.ErrFull
	case moved(m.Osds, o):
		return api.ErrArg
	}
	at := slices.IndexFunc(m.Osds, func(x api.Osd) bool { return x.Id > o.Id })
	if at < 0 {
		at = len(m.Osds)
	}
	m.Osds = slices.Insert(m.Osds, at, o)
	return api.OK
}

// setUp lets an OSD be up, with this Life and Boot.
func setUp(m *api.Map, o api.Osd) api.Errno {
	return turn(m, o.Id, func(x *api.Osd) { x.Up, x.Life, x.Boot = true, o.Life, o.Boot })
}

// setDown lets it be down; of which Life and Boot it was stays.
func setDown(m *api.Map, o api.Osd) api.Errno {
	return turn(m, o.Id, func(x *api.Osd) { x.Up = false })
}

// setIn lets it be in.
func setIn(m *api.Map, o api.Osd) api.Errno {
	return turn(m, o.Id, func(x *api.Osd) { x.In = true })
}

// setOut lets it be out.
func setOut(m *api.Map, o api.Osd) api.Errno {
	return turn(m, o.Id, func(x *api.Osd) { x.In = false })
}

// setWeight lets it have this Weight.
func setWeight(m *api.Map, o api.Osd) api.Errno {
	return turn(m, o.Id, func(x *api.Osd) { x.Weight = o.Weight })
}

// turn lets the OSD of that Id be turned, unless that turns nothing.
func turn(m *api.Map, id int, by func(x *api.Osd)) api.Errno {
	at := seat(m.Osds, id)
	if at < 0 {
		return api.ErrNone
	}
	turned := m.Osds[at]
	by(&turned)
	if turned == m.Osds[at] {
		return api.ErrSame
	}
	m.Osds[at] = turned
	return api.OK
}
