package atlas_test

import (
	"testing"

	"mooring/api"
	"mooring/atlas"
)

// change is one of an OSD.
func change(kind int, o api.Osd) api.Change { return api.Change{Kind: kind, Osd: o} }

// At1: what each kind turns of an OSD, and what it leaves as it was.
func TestKinds(t *testing.T) {
	down := api.Osd{Id: 4, Weight: 9, Life: 3, Boot: 2, Host: 5, Rack: 6}
	up := down
	up.Up = true
	with := func(o api.Osd, by func(o *api.Osd)) api.Osd { by(&o); return o }
	cases := []struct {
		what string
		was  api.Osd
		c    api.Change
		want api.Osd
	}{
		{"up again", down, change(api.ChangeUp, api.Osd{Id: 4, Life: 3, Boot: 2}), up},
		{"up, booted", down, change(api.ChangeUp, api.Osd{Id: 4, Life: 3, Boot: 3}), with(up, func(o *api.Osd) { o.Boot = 3 })},
		{"up, another disk", down, change(api.ChangeUp, api.Osd{Id: 4, Life: 8, Boot: 1}), with(up, func(o *api.Osd) { o.Life, o.Boot = 8, 1 })},
		{"up of one that is up, booted", up, change(api.ChangeUp, api.Osd{Id: 4, Life: 3, Boot: 1}), with(up, func(o *api.Osd) { o.Boot = 1 })},
		{"up of one that is up, another disk", up, change(api.ChangeUp, api.Osd{Id: 4, Life: 1, Boot: 2}), with(up, func(o *api.Osd) { o.Life = 1 })},
		{"down", up, change(api.ChangeDown, api.Osd{Id: 4}), down},
		{"in", up, change(api.ChangeIn, api.Osd{Id: 4}), with(up, func(o *api.Osd) { o.In = true })},
		{"in of one that is down", down, change(api.ChangeIn, api.Osd{Id: 4}), with(down, func(o *api.Osd) { o.In = true })},
		{"out", with(up, func(o *api.Osd) { o.In = true }), change(api.ChangeOut, api.Osd{Id: 4}), up},
		{"weight", up, change(api.ChangeWeight, api.Osd{Id: 4, Weight: 10}), with(up, func(o *api.Osd) { o.Weight = 10 })},
		{"weight 0", up, change(api.ChangeWeight, api.Osd{Id: 4}), with(up, func(o *api.Osd) { o.Weight = 0 })},
	}
	for _, c := range cases {
		for _, m := range []api.Map{holding(c.was), holding(api.Osd{Id: 1, Host: 1}, c.was), holding(c.was, api.Osd{Id: 5, Host: 1}), holding(api.Osd{Id: 3, Host: 1}, c.was, api.Osd{Id: 5, Host: 1})} {
			got, errno := applies(t, m, c.c)
			if o, ok := atlas.Find(got, 4); errno != api.OK || !ok || o != c.want || got.Epoch != 6 || got.Pool != m.Pool || len(got.Osds) != len(m.Osds) {
				t.Errorf("%s: Apply(%+v, %+v): %+v, error %d", c.what, m, c.c, got, errno)
			}
			refuses(t, c.what+" once more", got, c.c, api.ErrSame)
		}
	}
}

// At1: an OSD that is added goes to its place by its Id, as it is.
func TestAdd(t *testing.T) {
	for _, many := range []int{0, 1, 2, 3, 62, 63} {
		for id := range 135 {
			o := api.Osd{Id: id, Up: id%2 == 0, In: true, Weight: id, Life: 2, Boot: 3, Host: 900, Rack: 9}
			m := holding(crowd(many)...)
			got, errno := applies(t, m, change(api.ChangeAdd, o))
			if errno == api.ErrSame && id%2 == 0 && id >= 2 && id < 2+2*many {
				continue
			}
			if x, ok := atlas.Find(got, id); errno != api.OK || !ok || x != o || len(got.Osds) != many+1 {
				t.Fatalf("OSD %d beside %d: %+v, error %d", id, many, got, errno)
			}
		}
	}
}

// At1, R2: the errors of a change at a map, and which one is first where several apply.
func TestErrorsInOrder(t *testing.T) {
	full, room := holding(crowd(64)...), holding(crowd(63)...)
	last := full
	last.Epoch = 1 << 20
	wrong := holding(crowd(65)...)
	free := api.Osd{Id: 1, Host: 900}
	there := api.Osd{Id: 2, Host: 900}
	moved := api.Osd{Id: 1, Host: 0, Rack: 9}
	movedThere := api.Osd{Id: 2, Host: 0, Rack: 9}
	cases := []struct {
		what string
		m    api.Map
		c    api.Change
		want api.Errno
	}{
		{"a wrong change at a wrong map", wrong, change(0, free), api.ErrArg},
		{"a wrong change", full, change(api.ChangeAdd, api.Osd{Id: 2, Weight: -1}), api.ErrArg},
		{"a wrong change of one that there is not", room, change(api.ChangeDown, api.Osd{Id: 1, In: true}), api.ErrArg},
		{"a wrong change that turns nothing", room, change(api.ChangeOut, api.Osd{Id: 2, Host: 1}), api.ErrArg},
		{"a wrong map, and such an Id", wrong, change(api.ChangeAdd, there), api.ErrArg},
		{"a wrong map, and too many", wrong, change(api.ChangeAdd, free), api.ErrArg},
		{"a wrong map, and no such Id", wrong, change(api.ChangeDown, api.Osd{Id: 1}), api.ErrArg},
		{"the last epoch, and such an Id", last, change(api.ChangeAdd, there), api.ErrArg},
		{"the last epoch, and full", last, change(api.ChangeAdd, free), api.ErrArg},
		{"the last epoch, and no such Id", last, change(api.ChangeIn, api.Osd{Id: 1}), api.ErrArg},
		{"the last epoch, and nothing turns", last, change(api.ChangeOut, api.Osd{Id: 2}), api.ErrArg},
		{"such an Id", room, change(api.ChangeAdd, there), api.ErrSame},
		{"such an Id, all alike", room, change(api.ChangeAdd, room.Osds[0]), api.ErrSame},
		{"such an Id, and full", full, change(api.ChangeAdd, there), api.ErrSame},
		{"such an Id, and another rack", room, change(api.ChangeAdd, movedThere), api.ErrSame},
		{"such an Id, full, and another rack", full, change(api.ChangeAdd, movedThere), api.ErrSame},
		{"full", full, change(api.ChangeAdd, free), api.ErrFull},
		{"full, and another rack", full, change(api.ChangeAdd, moved), api.ErrFull},
		{"another rack", room, change(api.ChangeAdd, moved), api.ErrArg},
		{"no such Id, up", room, change(api.ChangeUp, api.Osd{Id: 1, Life: 1, Boot: 1}), api.ErrNone},
		{"no such Id, down", room, change(api.ChangeDown, api.Osd{Id: 1}), api.ErrNone},
		{"no such Id, in", room, change(api.ChangeIn, api.Osd{Id: 999}), api.ErrNone},
		{"no such Id, out", full, change(api.ChangeOut, api.Osd{Id: 0}), api.ErrNone},
		{"no such Id, weight", full, change(api.ChangeWeight, api.Osd{Id: 3}), api.ErrNone},
		{"no such Id, no OSD", holding(), change(api.ChangeWeight, api.Osd{Id: 3}), api.ErrNone},
		{"up already", room, change(api.ChangeUp, api.Osd{Id: 2, Life: 1, Boot: 1}), api.ErrSame},
		{"down already", room, change(api.ChangeDown, api.Osd{Id: 4}), api.ErrSame},
		{"in already", room, change(api.ChangeIn, api.Osd{Id: 4}), api.ErrSame},
		{"out already", room, change(api.ChangeOut, api.Osd{Id: 2}), api.ErrSame},
		{"this weight already", room, change(api.ChangeWeight, api.Osd{Id: 4, Weight: api.One}), api.ErrSame},
	}
	for _, c := range cases {
		refuses(t, c.what, c.m, c.c, c.want)
	}
}

// At1: all changes of few parts at all maps of two OSDs of few parts.
func TestAllSmall(t *testing.T) {
	t.Parallel()
	var osds []api.Osd
	for bits := range 64 {
		osds = append(osds, api.Osd{Up: bits&1 > 0, In: bits&2 > 0, Weight: bits >> 2 & 1, Life: 1 + bits>>3&1, Boot: 1 + bits>>4&1, Rack: bits >> 5 & 1})
	}
	var changes []api.Change
	for _, kind := range kindsOf() {
		for id := range 4 {
			for bits := range 16 {
				changes = append(changes, change(kind, api.Osd{Id: id, Weight: bits & 1, Life: bits >> 1 & 1, Boot: bits >> 2 & 1, Host: bits >> 3 & 1}))
			}
			for bits := range 4 {
				changes = append(changes, change(kind, api.Osd{Id: id, Life: 1 + bits&1, Boot: 1 + bits>>1&1}))
			}
		}
	}
	told := map[api.Errno]int{}
	for _, a := range osds {
		for _, b := range osds {
			a.Id, b.Id, b.Host = 1, 2, 1
			for _, c := range changes {
				_, errno := applies(t, holding(a, b), c)
				told[errno]++
			}
		}
	}
	for _, errno := range []api.Errno{api.OK, api.ErrArg, api.ErrNone, api.ErrSame} {
		if told[errno] < 50000 {
			t.Errorf("error %d was told %d times", errno, told[errno])
		}
	}
}

// At1: changes of many kinds at maps that may be and at others.
func TestApplyAtEdges(t *testing.T) {
	t.Parallel()
	var n numbers
	told := map[api.Errno]int{}
	for range 30000 {
		m := n.made()
		switch n.below(12) {
		case 0:
			m.Epoch = []int{-1, 1<<20 - 1, 1 << 20, 1<<20 + 1}[n.below(4)]
		case 1:
			m.Pool.M = 32
		case 2:
			m.Osds = append(m.Osds, n.osd(1000))
		}
		c := n.change(1000)
		if len(m.Osds) > 0 && n.below(3) > 0 {
			c.Osd.Id = m.Osds[n.below(len(m.Osds))].Id
		}
		if c.Kind == api.ChangeAdd && len(m.Osds) > 0 && n.below(2) == 0 {
			c.Osd.Host = m.Osds[n.below(len(m.Osds))].Host
		}
		_, errno := applies(t, m, c)
		told[errno]++
	}
	for _, errno := range []api.Errno{api.OK, api.ErrArg, api.ErrFull, api.ErrNone, api.ErrSame} {
		if told[errno] < 100 {
			t.Errorf("error %d was told %d times", errno, told[errno])
		}
	}
}
