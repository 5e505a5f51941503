package matrix_test

import (
	"bytes"
	"fmt"
	"math"
	"testing"

	"mooring/api"
	"mooring/gf"
	"mooring/matrix"
)

// numbers is a stream of elements, the same in every run.
type numbers uint64

func (n *numbers) next() int {
	*n = *n*6364136223846793005 + 1442695040888963407
	return int(*n >> 33)
}

// filled is a matrix of elements out of a stream.
func filled(n *numbers, rows, columns int) [][]byte {
	out := make([][]byte, rows)
	for i := range out {
		out[i] = make([]byte, columns)
		for j := range out[i] {
			out[i][j] = byte(n.next())
		}
	}
	return out
}

// sparse is a matrix most of whose elements are 0, so that many have no inverse.
func sparse(n *numbers, rows, columns int) [][]byte {
	out := filled(n, rows, columns)
	for i := range out {
		for j := range out[i] {
			if n.next()%2 == 0 {
				out[i][j] = 0
			}
		}
	}
	return out
}

func same(a, b [][]byte) bool {
	if len(a) != len(b) {
		return false
	}
	for i := range a {
		if !bytes.Equal(a[i], b[i]) {
			return false
		}
	}
	return true
}

func cloned(a [][]byte) [][]byte {
	var out [][]byte
	for _, row := range a {
		out = append(out, bytes.Clone(row))
	}
	return out
}

// slowMul is the product by its definition.
func slowMul(a, b [][]byte) [][]byte {
	out := make([][]byte, len(a))
	for i := range a {
		out[i] = make([]byte, len(b[0]))
		for j := range b[0] {
			for k := range b {
				out[i][j] ^= gf.Mul(a[i][k], b[k][j])
			}
		}
	}
	return out
}

// slowIdentity is the identity by its definition.
func slowIdentity(n int) [][]byte {
	out := make([][]byte, n)
	for i := range out {
		out[i] = make([]byte, n)
		out[i][i] = 1
	}
	return out
}

// determinant is the sum over one row, of all smaller ones.
func determinant(a [][]byte) byte {
	if len(a) == 0 {
		return 1
	}
	var sum byte
	for j := range a[0] {
		var rest [][]byte
		for _, row := range a[1:] {
			rest = append(rest, append(bytes.Clone(row[:j]), row[j+1:]...))
		}
		sum ^= gf.Mul(a[0][j], determinant(rest))
	}
	return sum
}

// slowRank is how many rows and columns the greatest square has whose
// determinant is not 0, of matrices of few rows.
func slowRank(a [][]byte) int {
	most := 0
	for rows := range 1 << len(a) {
		for columns := range 1 << len(a[0]) {
			var square [][]byte
			for i := range a {
				if rows>>i&1 == 0 {
					continue
				}
				var row []byte
				for j := range a[i] {
					if columns>>j&1 == 1 {
						row = append(row, a[i][j])
					}
				}
				square = append(square, row)
			}
			if len(square) > most && len(square[0]) == len(square) && determinant(square) != 0 {
				most = len(square)
			}
		}
	}
	return most
}

// wrong are lists that may not be matrices.
func wrong() map[string][][]byte {
	out := map[string][][]byte{
		"nil":                    nil,
		"no rows":                {},
		"a row of nil":           {nil},
		"a row of no elements":   {{}},
		"rows of no elements":    {{}, {}},
		"rows of nil and of one": {nil, {1}},
		"rows of one and of nil": {{1}, nil},
		"rows of one and of two": {{1}, {2, 3}},
		"rows of two and of one": {{1, 2}, {3}},
		"a last row too short":   {{1, 2}, {3, 4}, {5}},
		"a last row too long":    {{1, 2}, {3, 4}, {5, 6, 7}},
		"a middle row too long":  {{1, 2}, {3, 4, 5}, {6, 7}},
		"a middle row too short": {{1, 2}, {3}, {6, 7}},
		"one of no elements":     {{1, 2}, {}, {6, 7}},
		"three, one too short":   {{1, 0, 0}, {0, 1}, {0, 0, 1}},
		"256 columns":            filled(new(numbers), 1, 256),
		"256 rows":               filled(new(numbers), 256, 1),
		"256 rows and columns":   filled(new(numbers), 256, 256),
		"255 rows, 256 columns":  filled(new(numbers), 255, 256),
		"256 rows, 255 columns":  filled(new(numbers), 256, 255),
		"256 rows of none":       make([][]byte, 256),
		"1000 rows":              filled(new(numbers), 1000, 2),
		"1000 columns":           filled(new(numbers), 2, 1000),
	}
	late := filled(new(numbers), 255, 255)
	late[254] = append(late[254], 1)
	out["255 rows, the last of 256"] = late
	return out
}

// sizes are rows and columns of matrices that may be, the edges among them.
func sizes() [][2]int {
	return [][2]int{{1, 1}, {1, 2}, {2, 1}, {2, 2}, {3, 5}, {5, 3}, {7, 7}, {1, 255}, {255, 1}, {254, 3}, {3, 254}, {255, 255}}
}

// refused fails unless an answer is an error and nothing beside it.
func refused(t *testing.T, what string, out [][]byte, got, want api.Errno) {
	t.Helper()
	if got != want || len(out) != 0 {
		t.Errorf("%s: %d rows, error %d, want none, error %d", what, len(out), got, want)
	}
}

// The chapter's example.
func TestExample(t *testing.T) {
	a, e := matrix.Cauchy(2, 1)
	if e != api.OK || !same(a, [][]byte{{1, 0}, {0, 1}, {1, 142}}) {
		t.Errorf("Cauchy(2, 1) = %v, error %d", a, e)
	}
}

// Ma1: which matrices may be.
func TestCheck(t *testing.T) {
	for _, s := range sizes() {
		if e := matrix.Check(filled(new(numbers), s[0], s[1])); e != api.OK {
			t.Errorf("Check of %d by %d = %d, want 0", s[0], s[1], e)
		}
	}
	for what, a := range wrong() {
		if e := matrix.Check(a); e != api.ErrArg {
			t.Errorf("Check of %s = %d, want 1", what, e)
		}
	}
}

// Ma1: every identity.
func TestIdentity(t *testing.T) {
	for n := 1; n <= 255; n++ {
		if a, e := matrix.Identity(n); e != api.OK || !same(a, slowIdentity(n)) {
			t.Errorf("Identity(%d) = %v, error %d", n, a, e)
		}
	}
	for _, n := range []int{0, -1, -255, 256, 257, 512, math.MinInt, math.MaxInt} {
		a, e := matrix.Identity(n)
		refused(t, fmt.Sprintf("Identity(%d)", n), a, e, api.ErrArg)
	}
}

// Ma1: products, by hand and by the definition.
func TestMul(t *testing.T) {
	a, e := matrix.Mul([][]byte{{1, 2}, {0, 128}}, [][]byte{{5, 6, 7}, {128, 1, 2}})
	if e != api.OK || !same(a, [][]byte{{5 ^ 29, 6 ^ 2, 7 ^ 4}, {gf.Mul(128, 128), 128, 29}}) {
		t.Errorf("Mul = %v, error %d", a, e)
	}
	var n numbers
	for _, s := range [][3]int{{1, 1, 1}, {1, 2, 3}, {3, 2, 1}, {2, 5, 2}, {5, 2, 5}, {1, 255, 1}, {255, 1, 255}, {1, 255, 255}, {255, 255, 1}, {255, 2, 3}, {255, 255, 255}} {
		a, b := filled(&n, s[0], s[1]), filled(&n, s[1], s[2])
		if out, e := matrix.Mul(a, b); e != api.OK || !same(out, slowMul(a, b)) {
			t.Errorf("Mul of %d by %d and %d by %d: error %d, or another one", s[0], s[1], s[1], s[2], e)
		}
	}
}

// Ma1: products that may not be.
func TestMulRefuses(t *testing.T) {
	var n numbers
	for what, a := range wrong() {
		// A matrix that fits what is wrong, as far as one may.
		for _, size := range []int{1, 2, len(a)} {
			if size < 1 || size > 255 {
				continue
			}
			b := filled(&n, size, size)
			out, e := matrix.Mul(a, b)
			refused(t, "Mul of "+what+" and one that may be", out, e, api.ErrArg)
			out, e = matrix.Mul(b, a)
			refused(t, "Mul of one that may be and "+what, out, e, api.ErrArg)
		}
		out, e := matrix.Mul(a, a)
		refused(t, "Mul of "+what+" and itself", out, e, api.ErrArg)
	}
	for _, s := range [][4]int{{1, 2, 1, 2}, {2, 1, 2, 1}, {2, 3, 2, 3}, {3, 3, 2, 3}, {3, 3, 4, 3}, {2, 3, 4, 2}, {255, 254, 255, 255}, {255, 255, 254, 255}} {
		out, e := matrix.Mul(filled(&n, s[0], s[1]), filled(&n, s[2], s[3]))
		refused(t, fmt.Sprintf("Mul of %d by %d and %d by %d", s[0], s[1], s[2], s[3]), out, e, api.ErrArg)
	}
}

// Ma1: ranks that are told by hand.
func TestRank(t *testing.T) {
	for _, c := range []struct {
		a    [][]byte
		want int
	}{
		{[][]byte{{0}}, 0},
		{[][]byte{{7}}, 1},
		{[][]byte{{0, 0}, {0, 0}, {0, 0}}, 0},
		{[][]byte{{0, 0, 9}}, 1},
		{[][]byte{{0}, {0}, {9}}, 1},
		{[][]byte{{0, 1}, {1, 0}}, 2},
		{[][]byte{{1, 2}, {1, 2}}, 1},
		{[][]byte{{1, 2}, {2, 4}, {0, 1}}, 2},
		{[][]byte{{2, 128}, {4, 29}}, 1},
		{[][]byte{{0, 0, 1}, {0, 1, 0}, {0, 1, 1}}, 2},
		{[][]byte{{1, 0, 0, 0}, {0, 0, 0, 1}}, 2},
		{[][]byte{{1, 1}, {1, 2}, {1, 3}, {1, 4}}, 2},
	} {
		if n, e := matrix.Rank(c.a); n != c.want || e != api.OK {
			t.Errorf("Rank(%v) = %d, error %d, want %d", c.a, n, e, c.want)
		}
	}
	for what, a := range wrong() {
		if n, e := matrix.Rank(a); n != 0 || e != api.ErrArg {
			t.Errorf("Rank of %s = %d, error %d, want 0, error 1", what, n, e)
		}
	}
}

// Ma1: ranks by determinants.
func TestRankOfSmallOnes(t *testing.T) {
	var n numbers
	for range 2000 {
		a := sparse(&n, n.next()%4+1, n.next()%4+1)
		if got, e := matrix.Rank(a); got != slowRank(a) || e != api.OK {
			t.Fatalf("Rank(%v) = %d, error %d, want %d", a, got, e, slowRank(a))
		}
	}
}

// Ma1: ranks of great ones. Behind r independent rows come sums of these; and
// what is done to the columns by an inverse leaves the rank.
func TestRankOfGreatOnes(t *testing.T) {
	var n numbers
	for _, s := range [][3]int{{255, 255, 255}, {255, 255, 254}, {255, 255, 1}, {255, 255, 100}, {255, 10, 10}, {10, 255, 10}, {255, 3, 2}, {3, 255, 2}} {
		rows, columns, r := s[0], s[1], s[2]
		left, right := filled(&n, rows, r), filled(&n, r, columns)
		for i := range r {
			for j := range r {
				left[i][j], right[i][j] = 0, 0
			}
			left[i][i], right[i][i] = 1, 1
		}
		a := slowMul(left, right)
		if got, e := matrix.Rank(a); got != r || e != api.OK {
			t.Errorf("Rank of %d by %d = %d, error %d, want %d", rows, columns, got, e, r)
		}
	}
	for _, n := range []int{1, 2, 255} {
		if got, _ := matrix.Rank(slowIdentity(n)); got != n {
			t.Errorf("Rank of the identity of %d = %d", n, got)
		}
	}
	if got, e := matrix.Rank(make255()); got != 0 || e != api.OK {
		t.Errorf("Rank of zeros = %d, error %d", got, e)
	}
}

// make255 is 255 rows and columns of zeros.
func make255() [][]byte {
	out := slowIdentity(255)
	for i := range out {
		out[i][i] = 0
	}
	return out
}

// Ma1: rows in the list's order, some twice.
func TestRows(t *testing.T) {
	a := [][]byte{{1, 2}, {3, 4}, {5, 6}}
	for _, c := range []struct {
		l    []int
		want [][]byte
	}{
		{[]int{0}, [][]byte{{1, 2}}},
		{[]int{2}, [][]byte{{5, 6}}},
		{[]int{2, 0}, [][]byte{{5, 6}, {1, 2}}},
		{[]int{0, 1, 2}, a},
		{[]int{1, 1}, [][]byte{{3, 4}, {3, 4}}},
		{[]int{2, 0, 2, 1, 2}, [][]byte{{5, 6}, {1, 2}, {5, 6}, {3, 4}, {5, 6}}},
	} {
		if out, e := matrix.Rows(a, c.l); e != api.OK || !same(out, c.want) {
			t.Errorf("Rows(%v) = %v, error %d, want %v", c.l, out, e, c.want)
		}
	}
}

// Ma1: lists of 255, of a matrix of one row and of 255.
func TestRowsOfLongLists(t *testing.T) {
	var n numbers
	one, all := filled(&n, 1, 255), filled(&n, 255, 255)
	zeros, back := make([]int, 255), make([]int, 255)
	for i := range back {
		back[i] = 254 - i
	}
	out, e := matrix.Rows(one, zeros)
	if e != api.OK || len(out) != 255 || !bytes.Equal(out[254], one[0]) {
		t.Errorf("255 times row 0: %d rows, error %d", len(out), e)
	}
	out, e = matrix.Rows(all, back)
	if e != api.OK || len(out) != 255 {
		t.Fatalf("255 rows: %d rows, error %d", len(out), e)
	}
	for i := range out {
		if !bytes.Equal(out[i], all[254-i]) {
			t.Errorf("row %d is not row %d", i, 254-i)
		}
	}
	out, e = matrix.Rows(all, make([]int, 256))
	refused(t, "a list of 256", out, e, api.ErrArg)
	out, e = matrix.Rows(all, make([]int, 1000))
	refused(t, "a list of 1000", out, e, api.ErrArg)
}

// Ma1: lists of rows that may not be.
func TestRowsRefuses(t *testing.T) {
	a := [][]byte{{1, 2}, {3, 4}, {5, 6}}
	for _, l := range [][]int{nil, {}, {3}, {-1}, {0, 3}, {0, -1}, {3, 0}, {0, 1, 2, 3}, {256}, {math.MinInt}, {math.MaxInt}, {0, 1, math.MaxInt}} {
		out, e := matrix.Rows(a, l)
		refused(t, fmt.Sprintf("Rows(%v)", l), out, e, api.ErrArg)
	}
	for what, a := range wrong() {
		for _, l := range [][]int{nil, {}, {0}, {1}, {-1}} {
			out, e := matrix.Rows(a, l)
			refused(t, fmt.Sprintf("Rows(%v) of %s", l, what), out, e, api.ErrArg)
		}
	}
}

// Ma2: inverses that are told by hand.
func TestInverse(t *testing.T) {
	for _, c := range []struct{ a, want [][]byte }{
		{[][]byte{{1}}, [][]byte{{1}}},
		{[][]byte{{2}}, [][]byte{{142}}},
		{[][]byte{{0, 1}, {1, 0}}, [][]byte{{0, 1}, {1, 0}}},
		{[][]byte{{1, 7}, {0, 1}}, [][]byte{{1, 7}, {0, 1}}},
		{[][]byte{{2, 0}, {0, 142}}, [][]byte{{142, 0}, {0, 2}}},
		{[][]byte{{0, 1, 0}, {0, 0, 1}, {1, 0, 0}}, [][]byte{{0, 0, 1}, {1, 0, 0}, {0, 1, 0}}},
		{[][]byte{{0, 2}, {1, 0}}, [][]byte{{0, 1}, {142, 0}}},
	} {
		if out, e := matrix.Inverse(c.a); e != api.OK || !same(out, c.want) {
			t.Errorf("Inverse(%v) = %v, error %d, want %v", c.a, out, e, c.want)
		}
	}
	for i := 1; i < 256; i++ {
		want, _ := gf.Inv(byte(i))
		if out, e := matrix.Inverse([][]byte{{byte(i)}}); e != api.OK || !same(out, [][]byte{{want}}) {
			t.Errorf("Inverse of %d = %v, error %d", i, out, e)
		}
	}
}

// Ma2: the product with the inverse is the identity, from both sides; and there
// is one just if the determinant is not 0.
func TestInverseOfSmallOnes(t *testing.T) {
	var n numbers
	found, none := 0, 0
	for range 4000 {
		size := n.next()%4 + 1
		a := sparse(&n, size, size)
		b, e := matrix.Inverse(a)
		if determinant(a) == 0 {
			none++
			refused(t, fmt.Sprintf("Inverse(%v)", a), b, e, api.ErrNone)
			continue
		}
		found++
		if e != api.OK || matrix.Check(b) != api.OK {
			t.Fatalf("Inverse(%v) = %v, error %d", a, b, e)
		}
		if !same(slowMul(a, b), slowIdentity(size)) || !same(slowMul(b, a), slowIdentity(size)) {
			t.Fatalf("Inverse(%v) = %v", a, b)
		}
	}
	if found < 500 || none < 500 {
		t.Errorf("%d had an inverse, %d had none: too few of one kind", found, none)
	}
}

// Ma2: great ones.
func TestInverseOfGreatOnes(t *testing.T) {
	for _, size := range []int{16, 32, 127, 254, 255} {
		n := numbers(size)
		a := filled(&n, size, size)
		b, e := matrix.Inverse(a)
		if e != api.OK || len(b) != size || !same(slowMul(a, b), slowIdentity(size)) || !same(slowMul(b, a), slowIdentity(size)) {
			t.Fatalf("the inverse of %d by %d: %d rows, error %d, or none", size, size, len(b), e)
		}
		a[size-1] = slowMul([][]byte{{3, 5}}, [][]byte{a[0], a[1]})[0]
		b, e = matrix.Inverse(a)
		refused(t, fmt.Sprintf("%d by %d, the last row a sum of two", size, size), b, e, api.ErrNone)
	}
}

// Ma2: what has no inverse, and what may have none.
func TestInverseRefuses(t *testing.T) {
	for _, a := range [][][]byte{{{0}}, {{0, 0}, {0, 0}}, {{1, 2}, {1, 2}}, {{1, 2}, {2, 4}}, {{0, 0}, {0, 1}}, {{1, 0}, {0, 0}}, {{0, 1}, {0, 2}}, {{1, 2, 3}, {4, 5, 6}, {5, 7, 5}}, make255()} {
		out, e := matrix.Inverse(a)
		refused(t, fmt.Sprintf("Inverse(%v)", a), out, e, api.ErrNone)
	}
	for _, s := range [][2]int{{1, 2}, {2, 1}, {2, 3}, {3, 2}, {1, 255}, {255, 1}, {254, 255}, {255, 254}} {
		out, e := matrix.Inverse(filled(new(numbers), s[0], s[1]))
		refused(t, fmt.Sprintf("Inverse of %d by %d", s[0], s[1]), out, e, api.ErrArg)
		// Of rank 0, too: what is not square is told first.
		zeros := make([][]byte, s[0])
		for i := range zeros {
			zeros[i] = make([]byte, s[1])
		}
		out, e = matrix.Inverse(zeros)
		refused(t, fmt.Sprintf("Inverse of %d by %d zeros", s[0], s[1]), out, e, api.ErrArg)
	}
	for what, a := range wrong() {
		out, e := matrix.Inverse(a)
		refused(t, "Inverse of "+what, out, e, api.ErrArg)
	}
}

// Ma3: every Cauchy matrix, by its words.
func TestCauchy(t *testing.T) {
	for k := 1; k < 255; k++ {
		for m := 1; k+m <= 255; m++ {
			// All of the smaller ones, and of the others the edges.
			if k > 20 && m > 20 && k+m < 253 {
				continue
			}
			a, e := matrix.Cauchy(k, m)
			if e != api.OK || len(a) != k+m || !same(a[:k], slowIdentity(k)) {
				t.Fatalf("Cauchy(%d, %d): %d rows, error %d, or no identity", k, m, len(a), e)
			}
			for i, row := range a[k:] {
				if len(row) != k {
					t.Fatalf("Cauchy(%d, %d): row %d has %d columns", k, m, k+i, len(row))
				}
				for j, got := range row {
					if want, _ := gf.Inv(byte(i) ^ byte(m+j)); got != want {
						t.Fatalf("Cauchy(%d, %d): row %d, column %d is %d, want %d", k, m, k+i, j, got, want)
					}
				}
			}
		}
	}
}

// Ma3: numbers that may not be.
func TestCauchyRefuses(t *testing.T) {
	for _, c := range [][2]int{
		{0, 0}, {0, 1}, {1, 0}, {-1, 1}, {1, -1}, {-1, -1}, {0, 255}, {255, 0}, {0, 256}, {256, -1}, {-1, 256},
		{1, 255}, {255, 1}, {2, 254}, {254, 2}, {128, 128}, {127, 129}, {256, 1}, {1, 256}, {255, 255},
		{math.MaxInt, 1}, {1, math.MaxInt}, {math.MaxInt, math.MaxInt}, {math.MinInt, math.MinInt},
		{math.MinInt, math.MaxInt}, {math.MaxInt, math.MinInt}, {math.MaxInt/2 + 1, math.MaxInt/2 + 1}, {math.MaxInt, 257},
	} {
		a, e := matrix.Cauchy(c[0], c[1])
		refused(t, fmt.Sprintf("Cauchy(%d, %d)", c[0], c[1]), a, e, api.ErrArg)
	}
}

// inverted fails unless some rows of a matrix have an inverse.
func inverted(t *testing.T, a [][]byte, l []int) {
	t.Helper()
	rows, e := matrix.Rows(a, l)
	if e != api.OK {
		t.Fatalf("Rows(%v): error %d", l, e)
	}
	b, e := matrix.Inverse(rows)
	if e != api.OK || len(b) != len(l) {
		t.Fatalf("rows %v of %d by %d: error %d", l, len(a), len(a[0]), e)
	}
	if !same(slowMul(rows, b), slowIdentity(len(l))) {
		t.Fatalf("rows %v of %d by %d: the inverse is none", l, len(a), len(a[0]))
	}
}

// choices calls f with all lists of k of n, in their order.
func choices(n, k int, f func(l []int)) {
	var add func(l []int, from int)
	add = func(l []int, from int) {
		if len(l) == k {
			f(l)
			return
		}
		for i := from; i < n; i++ {
			add(append(l, i), i+1)
		}
	}
	add(make([]int, 0, k), 0)
}

// Ma4: any k rows of a Cauchy matrix have an inverse: of small ones all choices.
func TestAnyRowsOfCauchy(t *testing.T) {
	for k := 1; k <= 9; k++ {
		for m := 1; k+m <= 10; m++ {
			a, _ := matrix.Cauchy(k, m)
			choices(k+m, k, func(l []int) { inverted(t, a, l) })
		}
	}
}

// Ma4: of great ones the last rows, and some that are drawn, in any order.
func TestAnyRowsOfGreatCauchy(t *testing.T) {
	var n numbers
	for _, c := range [][2]int{{1, 254}, {254, 1}, {127, 128}, {128, 127}, {200, 55}, {20, 12}, {31, 1}, {1, 31}} {
		k, m := c[0], c[1]
		a, _ := matrix.Cauchy(k, m)
		l := make([]int, k+m)
		for i := range l {
			l[i] = k + m - 1 - i
		}
		inverted(t, a, l[:k])
		for range 3 {
			for i := range l {
				j := n.next() % (i + 1)
				l[i], l[j] = l[j], l[i]
			}
			inverted(t, a, l[:k])
		}
	}
}

// Ma4: products are associative.
func TestMulIsAssociative(t *testing.T) {
	var n numbers
	for round := range 300 {
		a := filled(&n, n.next()%9+1, n.next()%9+1)
		b := filled(&n, len(a[0]), n.next()%9+1)
		c := filled(&n, len(b[0]), n.next()%9+1)
		if round == 0 {
			a, b, c = filled(&n, 255, 255), filled(&n, 255, 255), filled(&n, 255, 255)
		}
		left, e1 := matrix.Mul(a, b)
		left, e2 := matrix.Mul(left, c)
		right, e3 := matrix.Mul(b, c)
		right, e4 := matrix.Mul(a, right)
		if e1 != api.OK || e2 != api.OK || e3 != api.OK || e4 != api.OK || !same(left, right) {
			t.Fatalf("%d by %d by %d by %d is not associative", len(a), len(b), len(c), len(c[0]))
		}
	}
}

// Ma4: a matrix has an inverse just if its rank is how many rows it has.
func TestInverseJustIfOfFullRank(t *testing.T) {
	var n numbers
	found, none := 0, 0
	for range 4000 {
		size := n.next()%8 + 1
		a := sparse(&n, size, size)
		if n.next()%3 == 0 {
			a[n.next()%size] = bytes.Clone(a[0])
		}
		rank, e := matrix.Rank(a)
		if e != api.OK {
			t.Fatalf("Rank(%v): error %d", a, e)
		}
		want := api.OK
		if rank < size {
			want = api.ErrNone
			none++
		} else {
			found++
		}
		if _, e = matrix.Inverse(a); e != want {
			t.Fatalf("Inverse(%v) of rank %d: error %d, want %d", a, rank, e, want)
		}
	}
	if found < 500 || none < 500 {
		t.Errorf("%d had an inverse, %d had none: too few of one kind", found, none)
	}
}
