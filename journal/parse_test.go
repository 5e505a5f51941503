package journal_test

import (
	"bytes"
	"testing"

	"mooring/api"
	"mooring/journal"
)

// Jo3, R2: bytes that are no multiple of 64, and none: refused, and nothing told.
func TestParseIsRefused(t *testing.T) {
	good := joined(laid(1, 1, some(60, 1)), laid(1, 2, some(9, 2)), blank(1))
	for n := range len(good) + 1 {
		got, errno := journal.Parse(good[:n])
		want := api.OK
		if n == 0 || n%64 != 0 {
			want = api.ErrArg
		}
		if errno != want || want != api.OK && len(got) != 0 {
			t.Errorf("of %d bytes: %X, error %d", n, got, errno)
		}
	}
	if got, errno := journal.Parse(nil); len(got) != 0 || errno != api.ErrArg {
		t.Errorf("of nil: %X, error %d", got, errno)
	}
}

// Jo3: bytes that are no records at all.
func TestParseOfNoRecords(t *testing.T) {
	for _, sectors := range []int{1, 2, 4096} {
		parses(t, blank(sectors), nil)
		parses(t, bytes.Repeat([]byte{0xFF}, 64*sectors), nil)
		parses(t, bytes.Repeat([]byte{'J'}, 64*sectors), nil)
	}
}

// Jo3: the chapter names no limit of the sectors: more than a disk has are read,
// too.
func TestParseOfMoreThanADisk(t *testing.T) {
	var dump []byte
	var want [][]byte
	for i := range 5000 {
		want = append(want, some(i%52, i))
		dump = append(dump, laid(1, i+1, want[i])...)
	}
	parses(t, dump, want)
}

// Jo3: records of all lengths, one behind the other; the reading ends at what is
// no part, or at the end.
func TestParseOfEachLength(t *testing.T) {
	for _, a := range lengths {
		for _, b := range append(lengths, longest-1, longest) {
			two := joined(laid(3, 1, some(a, 1)), laid(3, 2, some(b, 2)))
			want := [][]byte{some(a, 1), some(b, 2)}
			parses(t, two, want)
			parses(t, joined(two, blank(2)), want)
			parses(t, joined(two, bytes.Repeat([]byte{0xFF}, 64)), want)
			parses(t, two[:len(two)-64], want[:1])
			parses(t, joined(two[:len(two)-64], blank(1)), want[:1])
			parses(t, joined(blank(1), two), nil)
		}
	}
}

// Jo3: a record has at most 255 parts: one that goes on behind them is none.
func TestParseOfTooManyParts(t *testing.T) {
	for _, parts := range []int{254, 255, 256, 257} {
		var dump []byte
		for i := range parts {
			dump = append(dump, part(1, 1, i, i+1 == parts, some(51, i)).sector()...)
		}
		dump = joined(dump, laid(1, 2, some(5, 1)))
		got, errno := journal.Parse(dump)
		want := 0
		if parts <= 255 {
			want = 2
		}
		if errno != api.OK || len(got) != want {
			t.Errorf("%d parts: %d records, error %d", parts, len(got), errno)
		}
	}
}

// Jo1, Jo3: each byte of each part turned, with the sum as it was and with the
// one that the bytes ask for: the record, and those behind it, are none, or what
// the chapter's words say.
func TestEachByteTurned(t *testing.T) {
	records := [][]byte{some(9, 1), some(111, 2), nil, some(51, 3)}
	var good []byte
	for i, b := range records {
		good = append(good, laid(5, i+1, b)...)
	}
	of := []int{0, 1, 1, 1, 2, 3} // which record a sector is of
	for at := range good {
		for _, x := range []byte{1, 2, 0x10, 0x80, 0xFF} {
			dump := bytes.Clone(good)
			dump[at] ^= x
			parses(t, dump, records[:of[at/64]])
			looks(t, dump)
			if at%64 < 60 {
				s := at / 64 * 64
				copy(dump[s:], summed(dump[s:s+64]))
				looks(t, dump)
			}
		}
	}
}

// Jo3: a part that is wrong in one thing alone, its sum being right: in the first
// part of a record, in one between, in the last one.
func TestWrongParts(t *testing.T) {
	ahead := laid(5, 1, some(7, 9))
	pieces := [][]byte{some(51, 1), some(51, 2), some(20, 3)}
	behind := laid(5, 3, some(8, 9))
	wrongs := map[string]func(f *form){
		"mark":           func(f *form) { f.mark = 'j' },
		"no mark":        func(f *form) { f.mark = 0 },
		"generation":     func(f *form) { f.gen = 6 },
		"generation +":   func(f *form) { f.gen += 256 },
		"generation -":   func(f *form) { f.gen = 4 },
		"number":         func(f *form) { f.number = 3 },
		"number -":       func(f *form) { f.number = 1 },
		"number 0":       func(f *form) { f.number = 0 },
		"number, 2":      func(f *form) { f.number += 1 << 8 },
		"number, 3":      func(f *form) { f.number += 1 << 16 },
		"number, 4":      func(f *form) { f.number += 1 << 24 },
		"place":          func(f *form) { f.place++ },
		"place -":        func(f *form) { f.place = (f.place + 2) % 3 },
		"place, far":     func(f *form) { f.place += 128 },
		"more than 51":   func(f *form) { f.count = f.count&128 + 52 },
		"127":            func(f *form) { f.count |= 127 },
		"few, not last":  func(f *form) { f.count, f.data = 50, f.data[:min(len(f.data), 50)] },
		"none, not last": func(f *form) { f.count, f.data = 0, nil },
		"not filled":     func(f *form) { f.count, f.data = 128+3, append(bytes.Clone(f.data[:3]), 0, 0, 1) },
	}
	for what, wrong := range wrongs {
		t.Run(what, func(t *testing.T) {
			for at := range pieces {
				dump := ahead
				for i, b := range pieces {
					f := part(5, 2, i, i == 2, b)
					if i == at {
						wrong(&f)
					}
					dump = joined(dump, f.sector())
				}
				dump = joined(dump, behind)
				parses(t, dump, [][]byte{some(7, 9)})
				looks(t, dump)
			}
		})
	}
	parses(t, joined(ahead, laid(5, 2, joined(pieces...)), behind), [][]byte{some(7, 9), joined(pieces...), some(8, 9)})
}

// Jo3: a part that is missing, one that stands twice, two that are exchanged,
// one ahead of its place.
func TestPartsInOtherPlaces(t *testing.T) {
	records := [][]byte{some(150, 1), some(60, 2), some(5, 3)}
	var good []byte
	for i, b := range records {
		good = append(good, laid(2, i+1, b)...)
	}
	sector := func(i int) []byte { return good[64*i : 64*i+64] }
	of := []int{0, 0, 0, 1, 1, 2}
	for a := range 6 {
		missing := joined(good[:64*a], good[64*a+64:])
		parses(t, missing, records[:of[a]])
		looks(t, missing)
		twice := joined(good[:64*a], sector(a), good[64*a:])
		looks(t, twice)
		empty := bytes.Clone(good)
		copy(empty[64*a:], blank(1))
		parses(t, empty, records[:of[a]])
		looks(t, empty)
		for b := range a {
			other := bytes.Clone(good)
			copy(other[64*a:], sector(b))
			parses(t, other, records[:of[a]])
			copy(other[64*b:], sector(a))
			parses(t, other, records[:of[b]])
			looks(t, other)
		}
	}
}

// Jo3: a record of a multiple of 51 bytes has no empty part more.
func TestNoEmptyPartMore(t *testing.T) {
	for _, full := range []int{1, 2} {
		var dump []byte
		for i := range full {
			dump = append(dump, part(1, 1, i, false, some(51, i)).sector()...)
		}
		dump = joined(dump, part(1, 1, full, true, nil).sector(), laid(1, 2, nil))
		parses(t, dump, nil)
		looks(t, dump)
	}
	parses(t, joined(laid(1, 1, nil), laid(1, 2, some(51, 1)), laid(1, 3, nil)), [][]byte{nil, some(51, 1), nil})
}

// Jo1, Jo3: records of a lower, an equal and a higher generation than the one
// ahead: a lower one, and what is behind it, is not read.
func TestGenerationsInOrder(t *testing.T) {
	gens := []int{0, 1, 2, 255, 256, 511, 65534}
	for _, a := range gens {
		for _, b := range gens {
			for _, c := range gens {
				records := [][]byte{some(60, 1), some(3, 2), some(102, 3)}
				dump := joined(laid(a, 1, records[0]), laid(b, 2, records[1]), laid(c, 3, records[2]), blank(1))
				n := 1
				if a <= b {
					n = 2
				}
				if a <= b && b <= c {
					n = 3
				}
				parses(t, dump, records[:n])
				looks(t, dump)
			}
		}
	}
}

// Jo3: the first record has the number 1, and each further one the next.
func TestNumbersInOrder(t *testing.T) {
	for first := range 4 {
		for second := range 5 {
			dump := joined(laid(1, first, some(60, 1)), laid(1, second, some(3, 2)))
			var want [][]byte
			if first == 1 {
				want = append(want, some(60, 1))
			}
			if first == 1 && second == 2 {
				want = append(want, some(3, 2))
			}
			parses(t, dump, want)
			looks(t, dump)
		}
	}
	parses(t, laid(1, 1<<8+1, nil), nil)
	parses(t, laid(1, 1<<24+1, nil), nil)
}

// someForm is a form of a stream, most things of which are right at the place
// behind what there is.
func someForm(n *numbers, number, place *int) form {
	f := part(1+n.below(3), *number, *place, n.below(2) == 0, n.record())
	if len(f.data) > 51 {
		f.data = f.data[:51]
	}
	f.count = f.count&128 + len(f.data)
	if f.count < 51 {
		f.count += 128
	}
	*place++
	if f.count >= 128 {
		*number, *place = *number+1, 0
	}
	switch n.below(12) {
	case 0:
		f.number = n.below(4)
	case 1:
		f.place = n.below(3)
	case 2:
		f.count = n.below(256)
	case 3:
		f.mark = 'I'
	}
	if n.below(3) > 0 {
		f.gen = 2
	}
	return f
}

// Jo1, Jo3: sectors in many orders, most of which are parts, held against the
// chapter's words.
func TestManySectors(t *testing.T) {
	n := numbers(17)
	read := 0
	for range 3000 {
		var dump []byte
		number, place := 1, 0
		for range 1 + n.below(8) {
			s := someForm(&n, &number, &place).sector()
			if n.below(12) == 0 {
				s[n.below(64)] ^= 1 << n.below(8)
			}
			dump = append(dump, s...)
		}
		looks(t, dump)
		read += len(slowRecords(dump))
	}
	if read < 2000 {
		t.Errorf("%d records alone were read of 3000 disks", read)
	}
}

// Jo1, Jo3: any bytes, some of which get a right sum.
func FuzzParse(f *testing.F) {
	f.Add(joined(laid(1, 1, some(60, 1)), laid(2, 2, nil)), byte(0))
	f.Add(joined(laid(2, 1, some(9, 1)), laid(1, 2, some(102, 1))), byte(3))
	f.Fuzz(func(t *testing.T, dump []byte, sums byte) {
		if len(dump) < 64 || len(dump) > 64*8 {
			return
		}
		dump = bytes.Clone(dump[:len(dump)/64*64])
		for i := range len(dump) / 64 {
			if sums>>i&1 == 1 {
				copy(dump[64*i:], summed(dump[64*i:64*i+64]))
			}
		}
		looks(t, dump)
	})
}

func BenchmarkParse(b *testing.B) {
	var dump []byte
	for i := range 100 {
		dump = append(dump, laid(1, i+1, some(1000, i))...)
	}
	b.SetBytes(int64(len(dump)))
	for b.Loop() {
		journal.Parse(dump)
	}
}
