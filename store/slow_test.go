package store_test

import (
	"bytes"
	"hash/crc32"
	"slices"
	"strings"
	"testing"

	"mooring/api"
	"mooring/disk"
	"mooring/journal"
	"mooring/store"
)

// longest is how many bytes a journal's record may have.
const longest = 255 * 51

// set and take are acts.
func set(key, value string) api.Act { return api.Act{Key: key, Set: true, Data: []byte(value)} }
func take(key string) api.Act       { return api.Act{Key: key} }

// slowNumber is a number without sign: its digits to the base 128.
func slowNumber(n int) []byte {
	out := []byte{byte(n % 128)}
	for n /= 128; n > 0; n /= 128 {
		out[len(out)-1] += 128
		out = append(out, byte(n%128))
	}
	return out
}

// slowText is bytes, ahead of them how many.
func slowText(s string) []byte { return append(slowNumber(len(s)), s...) }

// slowEncode is the bytes of acts, whether they may be a batch or not.
func slowEncode(l []api.Act) []byte {
	out := slowNumber(len(l))
	for _, a := range l {
		out = append(out, slowText(a.Key)...)
		if a.Set {
			out = append(out, 1)
			out = append(out, slowText(string(a.Data))...)
		} else {
			out = append(out, 0)
		}
	}
	return out
}

// slowIsBatch says whether acts are a batch.
func slowIsBatch(l []api.Act) bool {
	ok := len(l) <= 256
	for _, a := range l {
		ok = ok && a.Key != "" && len(a.Key) < 65 && len(a.Data) < 4097
		ok = ok && (a.Set || len(a.Data) == 0)
	}
	return ok
}

// slowWrong is what Encode tells of acts.
func slowWrong(l []api.Act) api.Errno {
	switch {
	case !slowIsBatch(l):
		return api.ErrArg
	case len(slowEncode(l)) > longest:
		return api.ErrLong
	}
	return api.OK
}

// lax reads bytes in any form, too: numbers may have more digits than they need.
type lax struct {
	rest []byte
	bad  bool
}

func (r *lax) number() int {
	n, unit := 0, 1
	for !r.bad {
		if len(r.rest) == 0 || unit > 1<<28 {
			r.bad = true
			break
		}
		digit := r.rest[0]
		r.rest = r.rest[1:]
		n += unit * int(digit%128)
		if digit < 128 {
			return n
		}
		unit *= 128
	}
	return 0
}

func (r *lax) text() string {
	n := r.number()
	if n > len(r.rest) {
		r.bad = true
	}
	if r.bad {
		return ""
	}
	out := string(r.rest[:n])
	r.rest = r.rest[n:]
	return out
}

// slowDecode is the batch whose bytes are just these; false: there is none.
func slowDecode(b []byte) ([]api.Act, bool) {
	r := lax{rest: b}
	var out []api.Act
	for range r.number() {
		a := api.Act{Key: r.text(), Set: r.number() > 0}
		if a.Set {
			a.Data = []byte(r.text())
		}
		if r.bad {
			return nil, false
		}
		out = append(out, a)
	}
	if slowWrong(out) != api.OK || !bytes.Equal(slowEncode(out), b) {
		return nil, false
	}
	return out, true
}

// pair is a key and its value.
type pair struct{ key, value string }

// behind is what a batch leaves of pairs that rise by their keys; false: it takes
// a key away that is not there.
func behind(pairs []pair, l []api.Act) ([]pair, bool) {
	out := slices.Clone(pairs)
	for _, a := range l {
		at := 0
		for at < len(out) && out[at].key < a.Key {
			at++
		}
		there := at < len(out) && out[at].key == a.Key
		switch {
		case a.Set && there:
			out[at].value = string(a.Data)
		case a.Set:
			out = slices.Insert(out, at, pair{a.Key, string(a.Data)})
		case there:
			out = slices.Delete(out, at, at+1)
		default:
			return nil, false
		}
	}
	return out, true
}

// leave is what batches leave that can all be done.
func leave(t testing.TB, batches ...[]api.Act) []pair {
	t.Helper()
	var out []pair
	for i, l := range batches {
		next, ok := behind(out, l)
		if !ok {
			t.Fatalf("batch %d can't be done", i)
		}
		out = next
	}
	return out
}

// needs is how many sectors a batch takes.
func needs(l []api.Act) int { return (len(slowEncode(l)) + 50) / 51 }

// sameActs says whether two lists of acts are alike.
func sameActs(a, b []api.Act) bool {
	return slices.EqualFunc(a, b, func(a, b api.Act) bool {
		return a.Key == b.Key && a.Set == b.Set && bytes.Equal(a.Data, b.Data)
	})
}

// encodes holds what Encode tells of acts, and Decode of that, against the words.
func encodes(t testing.TB, l []api.Act) {
	t.Helper()
	want := slowWrong(l)
	b, errno := store.Encode(l)
	if errno != want {
		t.Fatalf("Encode of %d acts, %d bytes: error %d, and not %d", len(l), len(slowEncode(l)), errno, want)
	}
	if errno != api.OK {
		if len(b) != 0 {
			t.Fatalf("Encode: %X beside error %d", b, errno)
		}
		decodes(t, slowEncode(l))
		return
	}
	if !bytes.Equal(b, slowEncode(l)) {
		t.Fatalf("Encode of %v: %X, and not %X", l, b, slowEncode(l))
	}
	again, errno := store.Decode(b)
	if errno != api.OK || !sameActs(again, l) {
		t.Fatalf("Decode of %X: %v and error %d, and not %v", b, again, errno, l)
	}
}

// decodes holds what Decode tells of bytes against the words; it says whether
// they are a batch's.
func decodes(t testing.TB, b []byte) bool {
	t.Helper()
	want, ok := slowDecode(b)
	got, errno := store.Decode(b)
	if ok != (errno == api.OK) || !ok && errno != api.ErrText || !sameActs(got, want) {
		t.Fatalf("Decode of %X: %v and error %d, and not %v", b, got, errno, want)
	}
	return ok
}

// refusesBytes looks whether bytes are those of no batch.
func refusesBytes(t testing.TB, what string, b []byte) {
	t.Helper()
	if l, errno := store.Decode(b); errno != api.ErrText || len(l) != 0 {
		t.Errorf("%s: Decode of %X: %v and error %d", what, b, l, errno)
	}
	decodes(t, b)
}

// newDisk is a disk that there can be.
func newDisk(t testing.TB, sectors int) *disk.Disk {
	t.Helper()
	d, errno := disk.New(sectors)
	if errno != api.OK {
		t.Fatalf("New(%d): error %d", sectors, errno)
	}
	return d
}

// open opens what can be opened.
func open(t testing.TB, d *disk.Disk) *store.Store {
	t.Helper()
	s, errno := store.Open(d)
	if errno != api.OK || s == nil {
		t.Fatalf("Open: %v, error %d", s, errno)
	}
	return s
}

// newStore is a store of a new disk.
func newStore(t testing.TB, sectors int) (*store.Store, *disk.Disk) {
	t.Helper()
	d := newDisk(t, sectors)
	return open(t, d), d
}

// apply does what can be done.
func apply(t testing.TB, s *store.Store, l ...api.Act) {
	t.Helper()
	if errno := s.Apply(l); errno != api.OK {
		t.Fatalf("Apply of %d acts: error %d", len(l), errno)
	}
}

// put lays records behind those of a disk, whatever they are.
func put(t testing.TB, d *disk.Disk, records ...[]byte) {
	t.Helper()
	j, errno := journal.Open(d)
	if errno != api.OK {
		t.Fatalf("journal.Open: error %d", errno)
	}
	for _, b := range records {
		if errno := j.Put(b); errno != api.OK {
			t.Fatalf("Put of %d bytes: error %d", len(b), errno)
		}
	}
	j.Sync()
}

// sector is a record's only part, of a generation.
func sector(gen, number int, b []byte) []byte {
	out := []byte{'J', byte(gen), byte(gen >> 8), byte(number), 0, 0, 0, 0, byte(128 + len(b))}
	out = append(append(out, b...), make([]byte, 51-len(b))...)
	s := crc32.Checksum(out, crc32.MakeTable(crc32.Castagnoli))
	return append(out, byte(s), byte(s>>8), byte(s>>16), byte(s>>24))
}

// collect is all that a loop tells.
func collect(s *store.Store, prefix string) []pair {
	var out []pair
	for key, value := range s.All(prefix) {
		out = append(out, pair{key, string(value)})
	}
	return out
}

// within is the pairs whose keys begin so.
func within(pairs []pair, prefix string) []pair {
	var out []pair
	for _, p := range pairs {
		if len(p.key) >= len(prefix) && p.key[:len(prefix)] == prefix {
			out = append(out, p)
		}
	}
	return out
}

// tells holds all that a store tells against what it must. The keys that are
// asked for are also those that are nearly there.
func tells(t testing.TB, s *store.Store, want []pair, batches int) {
	t.Helper()
	if s.Len() != len(want) || s.Batches() != batches {
		t.Fatalf("%d keys, %d batches, and not %d, %d", s.Len(), s.Batches(), len(want), batches)
	}
	values := map[string]string{}
	asked := []string{"", "a", "x", "ab", "\x00", "\xFF", strings.Repeat("k", 64), strings.Repeat("k", 65)}
	for _, p := range want {
		values[p.key] = p.value
		asked = append(asked, p.key, p.key[:len(p.key)-1], p.key[:1], p.key+"\x00")
	}
	slices.Sort(asked)
	for _, key := range slices.Compact(asked) {
		value, ok := values[key]
		if got, has := s.Get(key); has != ok || string(got) != value {
			t.Fatalf("Get(%q): %q and %v, and not %q and %v", key, got, has, value, ok)
		}
		if got := collect(s, key); !slices.Equal(got, within(want, key)) {
			t.Fatalf("All(%q): %q, and not %q", key, got, within(want, key))
		}
	}
}

// keeps holds what is safe on a disk against the batches that were done.
func keeps(t testing.TB, d *disk.Disk, batches ...[]api.Act) {
	t.Helper()
	records, errno := journal.Parse(d.Dump())
	if errno != api.OK || len(records) != len(batches) || d.Pending() != 0 {
		t.Fatalf("%d records are safe, and not %d; %d writes are pending; error %d", len(records), len(batches), d.Pending(), errno)
	}
	for i, l := range batches {
		if !bytes.Equal(records[i], slowEncode(l)) {
			t.Fatalf("record %d is %X, and not %X", i, records[i], slowEncode(l))
		}
	}
}

// refusesDisk looks whether a disk is not opened, and stays as it was.
func refusesDisk(t testing.TB, what string, d *disk.Disk, want api.Errno) {
	t.Helper()
	was, pending := d.Dump(), d.Pending()
	if s, errno := store.Open(d); s != nil || errno != want {
		t.Errorf("%s: Open: %v, error %d, and not %d", what, s, errno, want)
	}
	if !bytes.Equal(d.Dump(), was) || d.Pending() != pending {
		t.Errorf("%s: Open refused a disk, and turned it", what)
	}
}

// some is so many bytes, other ones for each seed.
func some(length, seed int) string {
	out := make([]byte, length)
	for i := range out {
		out[i] = byte(1 + (7*i+31*seed+i/51)%255)
	}
	return string(out)
}

// joined is lists one behind the other.
func joined(lists ...[]byte) []byte { return bytes.Join(lists, nil) }

// sized is a batch of just so many bytes, that sets a key or several ones.
func sized(t testing.TB, size, seed int) []api.Act {
	t.Helper()
	var out []api.Act
	for key := 'a'; key <= 'z'; key++ {
		left := size - len(slowEncode(out))
		for n := max(0, left-6); n <= min(left, 4096); n++ {
			l := append(slices.Clone(out), set(string(key), some(n, seed)))
			if len(slowEncode(l)) == size {
				return l
			}
		}
		out = append(out, set(string(key), some(min(left/2, 4096), seed)))
	}
	t.Fatalf("no batch of %d bytes was found", size)
	return nil
}

// numbers is a stream of numbers that look like chance, and are always the same.
type numbers uint64

func (n *numbers) below(limit int) int {
	*n = *n*6364136223846793005 + 1442695040888963407
	return int(uint64(*n)>>33) % limit
}

// key is one of few keys, many of which begin alike.
func (n *numbers) key() string {
	keys := []string{"a", "b", "ab", "aba", "abc", "\x00", "a\x00", "\xFF", "\xFF\xFF", "\x7F", "ä", "\xC3", strings.Repeat("k", 64)}
	return keys[n.below(len(keys))]
}

// value is bytes of a length around those of a sector, or of none.
func (n *numbers) value() string {
	lengths := []int{0, 0, 1, 1, 2, 5, 30, 45, 46, 47, 51, 127, 128, n.below(200)}
	return some(lengths[n.below(len(lengths))], n.below(99))
}

// batch is acts of a stream, most of which take away what is there, or set.
func (n *numbers) batch(pairs []pair) []api.Act {
	out := make([]api.Act, n.below(5))
	for i := range out {
		switch kind := n.below(16); {
		case kind < 8:
			out[i] = set(n.key(), n.value())
		case kind < 14 && len(pairs) > 0:
			out[i] = take(pairs[n.below(len(pairs))].key)
		default:
			out[i] = take(n.key())
		}
	}
	return out
}

// cut is a cut of a stream, at most so long.
func (n *numbers) cut(most int) api.Cut {
	out := make(api.Cut, n.below(most+1))
	for i := range out {
		out[i] = n.below(4) > 0
	}
	return out
}
