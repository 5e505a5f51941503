package matrix_test

import (
	"bytes"
	"slices"
	"testing"

	"mooring/api"
	"mooring/matrix"
)

// asked is one call, with what it answers.
type asked struct {
	what string
	call func() [][]byte
}

// roomy is a matrix as it was given, with room behind each row's end, and behind
// the list's, that is not to be touched.
type roomy struct {
	all  [][]byte
	rows int
	was  [][]byte
}

func newRoomy(a [][]byte) *roomy {
	r := &roomy{rows: len(a)}
	for i, row := range append(cloned(a), []byte{77}, []byte{88}) {
		row = append(row, byte(i), 99, 111)
		r.all = append(r.all, row)
	}
	r.was = cloned(r.all)
	return r
}

// matrix is the list of rows, each with its room.
func (r *roomy) matrix() [][]byte {
	out := make([][]byte, len(r.all))
	for i, row := range r.all {
		out[i] = row[:len(row)-3]
	}
	return out[:r.rows]
}

// changed tells whether an element, or one in the room, is another one.
func (r *roomy) changed() bool { return !same(r.all, r.was) }

// scribble writes over all of an answer, and over the room behind its rows.
func scribble(a [][]byte) {
	for _, row := range a {
		row = row[:cap(row)]
		for i := range row {
			row[i] ^= 0xFF
		}
	}
}

// calls are calls that answer matrices, on lists with room behind.
func calls(a, b *roomy, l []int) []asked {
	answer := func(out [][]byte, _ api.Errno) [][]byte { return out }
	return []asked{
		{"Identity", func() [][]byte { return answer(matrix.Identity(5)) }},
		{"Mul", func() [][]byte { return answer(matrix.Mul(a.matrix(), b.matrix())) }},
		{"Mul of one by itself", func() [][]byte { return answer(matrix.Mul(a.matrix(), a.matrix())) }},
		{"Inverse", func() [][]byte { return answer(matrix.Inverse(a.matrix())) }},
		{"Rows", func() [][]byte { return answer(matrix.Rows(a.matrix(), l)) }},
		{"Cauchy", func() [][]byte { return answer(matrix.Cauchy(3, 4)) }},
	}
}

// R3: an answer is new memory, its spare room too; no two rows of it share any,
// and nothing is kept.
func TestAnswersAreNewMemory(t *testing.T) {
	start := [][]byte{{0, 2, 3}, {4, 5, 6}, {7, 8, 10}}
	identity, _ := matrix.Identity(3)
	for _, second := range [][][]byte{start, identity} {
		a, b, l := newRoomy(start), newRoomy(second), []int{1, 0, 1, 1, 2}
		for _, c := range calls(a, b, l) {
			first, other := c.call(), c.call()
			want := cloned(first)
			if len(first) == 0 || !same(first, other) {
				t.Fatalf("%s answers %v, then %v", c.what, first, other)
			}
			for i := range first {
				scribble(first[i : i+1])
				for j := i + 1; j < len(first); j++ {
					if !bytes.Equal(first[j], want[j]) {
						t.Fatalf("%s: rows %d and %d share memory", c.what, i, j)
					}
				}
			}
			if a.changed() || b.changed() || !slices.Equal(l, []int{1, 0, 1, 1, 2}) {
				t.Fatalf("%s: the answer shares memory with an argument", c.what)
			}
			if !same(other, want) || !same(c.call(), want) {
				t.Fatalf("%s: two answers share memory", c.what)
			}
		}
	}
}

// R3: rows that are handed in may be one and the same memory.
func TestRowsThatShareMemory(t *testing.T) {
	row := []byte{3, 5, 7, 9}
	a := [][]byte{row[:2], row[:2], row[1:3]}
	b := [][]byte{row[:3], row[1:]}
	if out, e := matrix.Mul(a, b); e != api.OK || !same(out, slowMul(a, b)) {
		t.Errorf("Mul = %v, error %d", out, e)
	}
	if n, e := matrix.Rank(a); n != 2 || e != api.OK {
		t.Errorf("Rank = %d, error %d, want 2", n, e)
	}
	square := [][]byte{row[:2], row[1:3]}
	if out, e := matrix.Inverse(square); e != api.OK || !same(slowMul(square, out), slowIdentity(2)) {
		t.Errorf("Inverse = %v, error %d", out, e)
	}
	out, e := matrix.Rows(a, []int{0, 1})
	if e != api.OK {
		t.Fatalf("Rows: error %d", e)
	}
	out[0][0] = 99
	if out[1][0] != 3 {
		t.Error("rows of an answer share memory, as those that were handed in did")
	}
	if !bytes.Equal(row, []byte{3, 5, 7, 9}) {
		t.Errorf("what was handed in is now %v", row)
	}
}

// R3: what is handed in stays as it was, the room behind it, too: of answers and
// of errors.
func TestArgumentsAreLeftAlone(t *testing.T) {
	for _, start := range [][][]byte{{{0, 2}, {4, 5}}, {{0, 0}, {4, 5}}, {{1, 2}, {1, 2}}, {{0, 1, 1}, {0, 2, 3}}, {{0}, {2}, {3}}, {{1, 2}, {3}}} {
		a := newRoomy(start)
		rows := a.matrix()
		heads := slices.Clone(rows[:cap(rows)])
		list := []int{1, 0, 1, 9, -9}
		matrix.Check(rows)
		matrix.Mul(rows, rows)
		matrix.Inverse(rows)
		matrix.Rank(rows)
		matrix.Rows(rows, list[:3])
		matrix.Rows(rows, list)
		if a.changed() || !slices.Equal(list, []int{1, 0, 1, 9, -9}) {
			t.Fatalf("%v: elements were changed", start)
		}
		for i, row := range rows[:cap(rows)] {
			if len(row) != len(heads[i]) || &row[:1][0] != &heads[i][:1][0] {
				t.Fatalf("%v: the list of rows was changed at %d", start, i)
			}
		}
	}
}

// R3: rows that are handed out are not kept: what becomes of the argument is
// nothing to the answer.
func TestArgumentsAreNotKept(t *testing.T) {
	a, b := newRoomy([][]byte{{1, 2}, {3, 4}}), newRoomy([][]byte{{1, 0}, {0, 1}})
	for _, c := range calls(a, b, []int{0, 1}) {
		out := c.call()
		want := cloned(out)
		scribble(a.all)
		scribble(b.all)
		if !same(out, want) {
			t.Errorf("%s: the answer changes with an argument", c.what)
		}
		scribble(a.all)
		scribble(b.all)
	}
}

var keep [][]byte

func BenchmarkMul255(b *testing.B) {
	a := filled(new(numbers), 255, 255)
	for range b.N {
		keep, _ = matrix.Mul(a, a)
	}
}

func BenchmarkInverse255(b *testing.B) {
	a := filled(new(numbers), 255, 255)
	for range b.N {
		keep, _ = matrix.Inverse(a)
	}
}
