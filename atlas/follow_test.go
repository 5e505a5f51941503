package atlas_test

import (
	"bytes"
	"slices"
	"testing"

	"mooring/api"
	"mooring/atlas"
)

// At1, At3: Fold of a list, and of each of its beginnings, is Apply one behind the
// other; a refused change turns nothing; each map that follows may be, one epoch on.
func TestFoldIsApply(t *testing.T) {
	t.Parallel()
	n := numbers(13)
	told := map[api.Errno]int{}
	for run := range 60 {
		ids := []int{3, 10, 70, 200, 1000}[run%5]
		list := make([]api.Change, 150+150*(run%3))
		for i := range list {
			list[i] = n.change(ids)
			if run%4 == 0 && n.below(2) == 0 {
				list[i].Kind, list[i].Osd = api.ChangeAdd, n.osd(ids)
			}
		}
		pool := n.pool()
		m, _ := atlas.New(pool)
		var errs []api.Errno
		folds(t, pool, nil, m, errs)
		for i, c := range list {
			next, errno := applies(t, m, c)
			told[errno]++
			errs = append(errs, errno)
			if errno == api.OK {
				follows(t, m, next)
				m = next
			}
			folds(t, pool, list[:i+1], m, errs)
		}
	}
	for _, errno := range []api.Errno{api.OK, api.ErrArg, api.ErrFull, api.ErrNone, api.ErrSame} {
		if told[errno] < 100 {
			t.Errorf("error %d was told %d times", errno, told[errno])
		}
	}
}

// folds looks at what Fold tells.
func folds(t testing.TB, p api.Pool, l []api.Change, want api.Map, errs []api.Errno) {
	t.Helper()
	was := slices.Clone(l)
	m, told, errno := atlas.Fold(p, l)
	if errno != api.OK || !same(m, want) || !slices.Equal(told, errs) {
		t.Fatalf("Fold(%+v, %+v): %+v, %v, error %d, and not %+v, %v", p, l, m, told, errno, want, errs)
	}
	if !slices.Equal(l, was) {
		t.Fatalf("Fold turned its list: %+v, and was %+v", l, was)
	}
}

// follows looks whether a map may be, and is one epoch behind another one.
func follows(t testing.TB, m, next api.Map) {
	t.Helper()
	if atlas.Check(next) != api.OK || next.Epoch != m.Epoch+1 || next.Pool != m.Pool {
		t.Fatalf("%+v follows %+v", next, m)
	}
}

// At3: each map that may be is followed by such ones alone, also one that no changes
// led to.
func TestWhatFollowsMayBe(t *testing.T) {
	t.Parallel()
	n := numbers(5)
	done := 0
	for range 3000 {
		m := n.made()
		checks(t, m, true)
		for range 10 {
			c := n.change(1000)
			if len(m.Osds) > 0 && c.Kind != api.ChangeAdd {
				c.Osd.Id = m.Osds[n.below(len(m.Osds))].Id
			}
			if next, errno := applies(t, m, c); errno == api.OK {
				follows(t, m, next)
				m = next
				done++
			}
		}
	}
	if done < 10000 {
		t.Errorf("only %d changes were done", done)
	}
}

// At3: a map and a change there and back, and bytes back and there.
func TestThereAndBack(t *testing.T) {
	n := numbers(3)
	for range 2000 {
		m := n.made()
		checks(t, m, true)
		b, _ := atlas.Encode(m)
		again, errno := atlas.Decode(b)
		if errno != api.OK || !atlas.Same(again, m) {
			t.Fatalf("Decode of Encode(%+v): %+v, error %d", m, again, errno)
		}
		if bs, errno := atlas.Encode(again); errno != api.OK || !bytes.Equal(bs, b) {
			t.Fatalf("Encode of Decode(%X): %X, error %d", b, bs, errno)
		}
		c := n.change(1000)
		checksChange(t, c, slowChange(c))
	}
}

// At3: two maps that are not the same have not the same bytes.
func TestBytesTellApart(t *testing.T) {
	n := numbers(8)
	seen := map[string]api.Map{}
	for range 3000 {
		m := n.made()
		if len(m.Osds) > 2 {
			m.Osds = m.Osds[:n.below(3)]
		}
		b, _ := atlas.Encode(m)
		if was, ok := seen[string(b)]; ok && !atlas.Same(was, m) {
			t.Fatalf("%+v and %+v have the same bytes", was, m)
		}
		seen[string(b)] = m
	}
	if len(seen) < 2500 {
		t.Errorf("only %d maps", len(seen))
	}
}

// At1: Fold of as many as MaxOsds, one more, and of many.
func TestLongFolds(t *testing.T) {
	var l []api.Change
	for id := range 66 {
		l = append(l, change(api.ChangeAdd, api.Osd{Id: 65 - id, Host: id}))
	}
	m, told, errno := atlas.Fold(few(), l)
	if errno != api.OK || m.Epoch != 64 || len(m.Osds) != 64 || told[63] != api.OK || told[64] != api.ErrFull || told[65] != api.ErrFull {
		t.Errorf("66 adds: Epoch %d, %d OSDs, error %d, and of each %v", m.Epoch, len(m.Osds), errno, told)
	}
	for i := range 1000 {
		l = append(l, change(api.ChangeWeight, api.Osd{Id: 2 + i%64, Weight: 1 + i}), change(0, api.Osd{}))
	}
	m, told, errno = atlas.Fold(few(), l)
	if errno != api.OK || m.Epoch != 1064 || len(told) != 2066 || told[2065] != api.ErrArg || m.Osds[1000%64-1].Weight != 1000 {
		t.Errorf("long: Epoch %d, %d told, error %d", m.Epoch, len(told), errno)
	}
}

// At1: Fold comes to MaxEpoch, and no further.
func TestFoldToTheLast(t *testing.T) {
	t.Parallel()
	l := []api.Change{change(api.ChangeAdd, api.Osd{})}
	for i := range 1<<20 + 2 {
		l = append(l, change(api.ChangeIn+i%2, api.Osd{}))
	}
	m, told, errno := atlas.Fold(few(), l)
	if errno != api.OK || m.Epoch != 1<<20 || len(told) != len(l) {
		t.Fatalf("Epoch %d, %d told, error %d", m.Epoch, len(told), errno)
	}
	for i, errno := range told {
		if want := is(i < 1<<20); errno != want {
			t.Fatalf("change %d: error %d, and not %d", i, errno, want)
		}
	}
}

// R4: what is told hangs on the arguments alone.
func TestAlwaysTheSame(t *testing.T) {
	n := numbers(21)
	list := make([]api.Change, 500)
	for i := range list {
		list[i] = n.change(80)
	}
	m, told, _ := atlas.Fold(few(), list)
	b, _ := atlas.Encode(m)
	for range 20 {
		again, toldAgain, _ := atlas.Fold(few(), list)
		c, _ := atlas.Encode(again)
		if !atlas.Same(m, again) || !slices.Equal(told, toldAgain) || !bytes.Equal(b, c) {
			t.Fatal("Fold tells another map")
		}
	}
}

// FuzzApply looks at any change at a map of changes.
func FuzzApply(f *testing.F) {
	f.Add([]byte("mooring"), 2, 1, true, false, 1, 1, 1, 0, 0)
	f.Add(bytes.Repeat([]byte{7, 200}, 60), 1, 999, false, true, 1<<24, 1<<31-1, 1<<31-1, 999, 999)
	f.Fuzz(func(t *testing.T, seed []byte, kind, id int, isUp, isIn bool, weight, life, boot, host, rack int) {
		m, _ := atlas.New(few())
		var n numbers
		for _, v := range seed[:min(len(seed), 200)] {
			n += numbers(v) << 33
			if next, errno := applies(t, m, n.change(1+int(v))); errno == api.OK {
				follows(t, m, next)
				m = next
			}
		}
		c := change(kind, api.Osd{Id: id, Up: isUp, In: isIn, Weight: weight, Life: life, Boot: boot, Host: host, Rack: rack})
		checksChange(t, c, slowChange(c))
		applies(t, m, c)
		checks(t, holding(c.Osd), slowOsd(c.Osd))
	})
}

func BenchmarkApply(b *testing.B) {
	m := holding(crowd(64)...)
	for b.Loop() {
		atlas.Apply(m, change(api.ChangeWeight, api.Osd{Id: 128, Weight: 1}))
	}
}

func BenchmarkFold(b *testing.B) {
	var n numbers
	list := make([]api.Change, 1000)
	for i := range list {
		list[i] = n.change(80)
	}
	for b.Loop() {
		atlas.Fold(few(), list)
	}
}

func BenchmarkEncode(b *testing.B) {
	m := holding(crowd(64)...)
	for b.Loop() {
		atlas.Encode(m)
	}
}

func BenchmarkDecode(b *testing.B) {
	bs, _ := atlas.Encode(holding(crowd(64)...))
	for b.Loop() {
		atlas.Decode(bs)
	}
}
