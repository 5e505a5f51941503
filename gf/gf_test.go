package gf_test

import (
	"bytes"
	"math"
	"testing"

	"mooring/gf"
)

// slowMul is the product by the words of the chapter: the polynomials' product,
// and then what is left of it modulo 11D. It uses nothing of the package.
func slowMul(a, b byte) byte {
	product := 0
	for bit := range 8 {
		if b>>bit&1 == 1 {
			product ^= int(a) << bit
		}
	}
	for bit := 14; bit >= 8; bit-- {
		if product>>bit&1 == 1 {
			product ^= 0x11D << (bit - 8)
		}
	}
	return byte(product)
}

// slowInv looks for the inverse of an element other than 0.
func slowInv(t *testing.T, a byte) byte {
	t.Helper()
	for b := range 256 {
		if slowMul(a, byte(b)) == 1 {
			return byte(b)
		}
	}
	t.Fatalf("%d has no inverse", a)
	return 0
}

// slowPow is a times itself, n times, by squares, so that n may be any number.
func slowPow(a byte, n uint64) byte {
	out := byte(1)
	for ; n > 0; n >>= 1 {
		if n&1 == 1 {
			out = slowMul(out, a)
		}
		a = slowMul(a, a)
	}
	return out
}

// slowPowInt is slowPow of the inverse, of an n below 0; a is not 0 then.
func slowPowInt(t *testing.T, a byte, n int) byte {
	t.Helper()
	if n < 0 {
		return slowPow(slowInv(t, a), -uint64(n))
	}
	return slowPow(a, uint64(n))
}

// edgeInts are numbers about which a power might go wrong.
func edgeInts() []int {
	var out []int
	middles := []int{0, 127, 128, 254, 255, 256, 510, 65025, math.MaxInt32, math.MaxInt / 255, math.MaxInt / 254, math.MaxInt / 2}
	for _, m := range middles {
		for n := m - 3; n <= m+3; n++ {
			out = append(out, n, -n)
		}
	}
	for n := range 520 {
		out = append(out, math.MinInt+n, math.MaxInt-n)
	}
	return out
}

// Gf1, the chapter's examples.
func TestExamples(t *testing.T) {
	if n := gf.Mul(2, 128); n != 29 {
		t.Errorf("Mul(2, 128) = %d, want 29", n)
	}
	if n, ok := gf.Inv(2); n != 142 || !ok {
		t.Errorf("Inv(2) = %d, %v, want 142, true", n, ok)
	}
	if n := gf.Exp(255); n != 1 {
		t.Errorf("Exp(255) = %d, want 1", n)
	}
}

// Gf1: sum and product, of all pairs.
func TestAddAndMul(t *testing.T) {
	for i := range 256 {
		for j := range 256 {
			a, b := byte(i), byte(j)
			if n := gf.Add(a, b); n != a^b {
				t.Fatalf("Add(%d, %d) = %d, want %d", a, b, n, a^b)
			}
			if n := gf.Mul(a, b); n != slowMul(a, b) {
				t.Fatalf("Mul(%d, %d) = %d, want %d", a, b, n, slowMul(a, b))
			}
		}
	}
}

// Gf1: inverses of all elements.
func TestInv(t *testing.T) {
	for i := 1; i < 256; i++ {
		a := byte(i)
		if n, ok := gf.Inv(a); n != slowInv(t, a) || !ok {
			t.Fatalf("Inv(%d) = %d, %v, want %d, true", a, n, ok, slowInv(t, a))
		}
	}
	if n, ok := gf.Inv(0); n != 0 || ok {
		t.Errorf("Inv(0) = %d, %v, want 0, false", n, ok)
	}
}

// Gf1: quotients of all pairs.
func TestDiv(t *testing.T) {
	for i := range 256 {
		a := byte(i)
		for j := 1; j < 256; j++ {
			b := byte(j)
			n, ok := gf.Div(a, b)
			if !ok || slowMul(n, b) != a {
				t.Fatalf("Div(%d, %d) = %d, %v: times %d it is %d", a, b, n, ok, b, slowMul(n, b))
			}
		}
		if n, ok := gf.Div(a, 0); n != 0 || ok {
			t.Errorf("Div(%d, 0) = %d, %v, want 0, false", a, n, ok)
		}
	}
}

// Gf1: powers of elements other than 0, n near 0.
func TestPowStepByStep(t *testing.T) {
	for i := 1; i < 256; i++ {
		a := byte(i)
		inverse := slowInv(t, a)
		up, down := byte(1), byte(1)
		for n := range 600 {
			if got, ok := gf.Pow(a, n); got != up || !ok {
				t.Fatalf("Pow(%d, %d) = %d, %v, want %d, true", a, n, got, ok, up)
			}
			if got, ok := gf.Pow(a, -n); got != down || !ok {
				t.Fatalf("Pow(%d, %d) = %d, %v, want %d, true", a, -n, got, ok, down)
			}
			up, down = slowMul(up, a), slowMul(down, inverse)
		}
	}
}

// Gf1: n may be any int.
func TestPowOfAnyInt(t *testing.T) {
	for _, a := range []byte{1, 2, 3, 7, 29, 128, 142, 254, 255} {
		for _, n := range edgeInts() {
			want := slowPowInt(t, a, n)
			if got, ok := gf.Pow(a, n); got != want || !ok {
				t.Fatalf("Pow(%d, %d) = %d, %v, want %d, true", a, n, got, ok, want)
			}
		}
	}
}

// Gf1: powers of 0.
func TestPowOfZero(t *testing.T) {
	for _, n := range edgeInts() {
		got, ok := gf.Pow(0, n)
		switch {
		case n == 0 && (got != 1 || !ok):
			t.Errorf("Pow(0, 0) = %d, %v, want 1, true", got, ok)
		case n > 0 && (got != 0 || !ok):
			t.Errorf("Pow(0, %d) = %d, %v, want 0, true", n, got, ok)
		case n < 0 && (got != 0 || ok):
			t.Errorf("Pow(0, %d) = %d, %v, want 0, false", n, got, ok)
		}
	}
}

// Gf1: Exp of any n.
func TestExp(t *testing.T) {
	want := byte(1)
	for n := range 1024 {
		if got := gf.Exp(n); got != want {
			t.Fatalf("Exp(%d) = %d, want %d", n, got, want)
		}
		want = slowMul(want, 2)
	}
	for _, n := range edgeInts() {
		if got, want := gf.Exp(n), slowPowInt(t, 2, n); got != want {
			t.Fatalf("Exp(%d) = %d, want %d", n, got, want)
		}
	}
}

// Gf1: Log is the least n from 0 on.
func TestLog(t *testing.T) {
	for i := 1; i < 256; i++ {
		a := byte(i)
		want := 0
		for v := byte(1); v != a; v = slowMul(v, 2) {
			want++
		}
		if n, ok := gf.Log(a); n != want || !ok {
			t.Fatalf("Log(%d) = %d, %v, want %d, true", a, n, ok, want)
		}
	}
	if n, ok := gf.Log(0); n != 0 || ok {
		t.Errorf("Log(0) = %d, %v, want 0, false", n, ok)
	}
}

// list is n elements that run through all of them, from one that from says.
func list(n, from, step int) []byte {
	out := make([]byte, n)
	for i := range out {
		out[i] = byte(from + i*step)
	}
	return out
}

// Gf2: sums of products.
func TestDot(t *testing.T) {
	for _, n := range []int{0, 1, 2, 3, 16, 255, 256, 257, 4096} {
		a, b := list(n, 0, 1), list(n, 5, 7)
		var want byte
		for i := range a {
			want ^= slowMul(a[i], b[i])
		}
		if got, ok := gf.Dot(a, b); got != want || !ok {
			t.Errorf("Dot of %d = %d, %v, want %d, true", n, got, ok, want)
		}
	}
	if got, ok := gf.Dot([]byte{1, 2}, []byte{7, 128}); got != 7^29 || !ok {
		t.Errorf("Dot = %d, %v, want %d, true", got, ok, 7^29)
	}
}

// Gf2: the empty list and nil are the same.
func TestDotOfNothing(t *testing.T) {
	for _, a := range [][]byte{nil, {}} {
		for _, b := range [][]byte{nil, {}} {
			if got, ok := gf.Dot(a, b); got != 0 || !ok {
				t.Errorf("Dot of nothing = %d, %v, want 0, true", got, ok)
			}
		}
	}
}

// unlike are lengths that are not equal.
func unlike() [][2]int {
	return [][2]int{{0, 1}, {1, 0}, {1, 2}, {2, 1}, {255, 256}, {4096, 16}}
}

// Gf2: lists that are not equally long.
func TestDotOfUnlikeLengths(t *testing.T) {
	for _, l := range unlike() {
		if got, ok := gf.Dot(list(l[0], 1, 1), list(l[1], 1, 1)); got != 0 || ok {
			t.Errorf("Dot of %d and %d = %d, %v, want 0, false", l[0], l[1], got, ok)
		}
	}
}

// Gf2: every c.
func TestAddMul(t *testing.T) {
	for _, n := range []int{0, 1, 2, 3, 16, 255, 256, 257} {
		dst, src := list(n, 3, 11), list(n, 0, 1)
		for i := range 256 {
			c := byte(i)
			want := make([]byte, n)
			for j := range want {
				want[j] = dst[j] ^ slowMul(c, src[j])
			}
			if got, ok := gf.AddMul(dst, src, c); !bytes.Equal(got, want) || !ok {
				t.Fatalf("AddMul of %d by %d = %v, %v, want %v, true", n, c, got, ok, want)
			}
		}
	}
}

// Gf2: the empty list and nil are the same.
func TestAddMulOfNothing(t *testing.T) {
	for _, dst := range [][]byte{nil, {}} {
		for _, src := range [][]byte{nil, {}} {
			if got, ok := gf.AddMul(dst, src, 7); len(got) != 0 || !ok {
				t.Errorf("AddMul of nothing = %v, %v, want nothing, true", got, ok)
			}
		}
	}
}

// Gf2, R2: lists that are not equally long.
func TestAddMulOfUnlikeLengths(t *testing.T) {
	for _, l := range unlike() {
		for _, c := range []byte{0, 1, 2, 255} {
			if got, ok := gf.AddMul(list(l[0], 1, 1), list(l[1], 1, 1), c); len(got) != 0 || ok {
				t.Errorf("AddMul of %d and %d = %v, %v, want nothing, false", l[0], l[1], got, ok)
			}
		}
	}
}

// R3: what is handed in stays as it was, the room behind a list's end, too.
func TestListsAreLeftAlone(t *testing.T) {
	for _, n := range []int{0, 1, 5, 16} {
		for _, c := range []byte{0, 1, 2, 255} {
			dst, src := list(n+8, 1, 3), list(n+8, 2, 5)
			dstWas, srcWas := bytes.Clone(dst), bytes.Clone(src)
			gf.AddMul(dst[:n], src[:n], c)
			gf.AddMul(dst[:n], src[:n+1], c)
			gf.AddMul(dst[:n], dst[1:n+1], c)
			gf.Dot(dst[:n], src[:n])
			gf.Dot(dst[:n+1], src[:n])
			if !bytes.Equal(dst, dstWas) || !bytes.Equal(src, srcWas) {
				t.Fatalf("%d elements, c %d: the lists were changed", n, c)
			}
		}
	}
}

// scribble writes over a list and over all the room behind its end.
func scribble(b []byte) {
	b = b[:cap(b)]
	for i := range b {
		b[i] ^= 0xFF
	}
}

// R3: an answer is new memory, its spare room too, and nothing is kept.
func TestAddMulAnswersNewMemory(t *testing.T) {
	for _, n := range []int{0, 1, 5, 16} {
		for _, c := range []byte{0, 1, 2, 255} {
			dst, src := list(n+8, 1, 3), list(n+8, 2, 5)
			dstWas, srcWas := bytes.Clone(dst), bytes.Clone(src)
			first, _ := gf.AddMul(dst[:n], src[:n], c)
			want := bytes.Clone(first)
			second, _ := gf.AddMul(dst[:n], src[:n], c)
			scribble(first)
			if !bytes.Equal(dst, dstWas) || !bytes.Equal(src, srcWas) {
				t.Fatalf("%d elements, c %d: the answer shares memory with an argument", n, c)
			}
			if !bytes.Equal(second, want) {
				t.Fatalf("%d elements, c %d: two answers share memory", n, c)
			}
			scribble(dst)
			scribble(src)
			if !bytes.Equal(second, want) {
				t.Fatalf("%d elements, c %d: an argument is kept in the answer", n, c)
			}
			if third, ok := gf.AddMul(dstWas[:n], srcWas[:n], c); !bytes.Equal(third, want) || !ok {
				t.Fatalf("%d elements, c %d: a later answer is another one", n, c)
			}
		}
	}
}

// R3: one list may be handed in twice.
func TestListWithItself(t *testing.T) {
	l := list(256, 0, 1)
	if got, ok := gf.AddMul(l, l, 1); !bytes.Equal(got, make([]byte, 256)) || !ok {
		t.Error("AddMul of a list, and once itself, is not all 0")
	}
	var want byte
	for _, a := range l {
		want ^= slowMul(a, a)
	}
	if got, ok := gf.Dot(l, l); got != want || !ok {
		t.Errorf("Dot of a list and itself = %d, %v, want %d, true", got, ok, want)
	}
}

// Gf3: the laws of two elements.
func TestFieldOfPairs(t *testing.T) {
	for i := range 256 {
		a := byte(i)
		if gf.Add(a, 0) != a || gf.Mul(a, 1) != a || gf.Mul(a, 0) != 0 {
			t.Fatalf("0 or 1 does something to %d", a)
		}
		if gf.Add(a, a) != 0 {
			t.Fatalf("%d is not its own negative", a)
		}
		for j := range 256 {
			b := byte(j)
			if gf.Add(a, b) != gf.Add(b, a) || gf.Mul(a, b) != gf.Mul(b, a) {
				t.Fatalf("%d and %d do not commute", a, b)
			}
			if a != 0 && b != 0 && gf.Mul(a, b) == 0 {
				t.Fatalf("%d times %d is 0", a, b)
			}
		}
	}
}

// Gf3: the laws of three elements, all of them.
func TestFieldOfTriples(t *testing.T) {
	for i := range 256 {
		for j := range 256 {
			a, b := byte(i), byte(j)
			sum, product := gf.Add(a, b), gf.Mul(a, b)
			for k := range 256 {
				c := byte(k)
				if gf.Add(sum, c) != gf.Add(a, gf.Add(b, c)) {
					t.Fatalf("sum of %d, %d, %d is not associative", a, b, c)
				}
				if gf.Mul(product, c) != gf.Mul(a, gf.Mul(b, c)) {
					t.Fatalf("product of %d, %d, %d is not associative", a, b, c)
				}
				if gf.Mul(sum, c) != gf.Add(gf.Mul(a, c), gf.Mul(b, c)) {
					t.Fatalf("%d, %d, times %d, do not distribute", a, b, c)
				}
			}
		}
	}
}

// Gf3: each element but 0 has an inverse, and is Exp of its Log.
func TestFieldOfInverses(t *testing.T) {
	var seen [256]bool
	for i := 1; i < 256; i++ {
		a := byte(i)
		if inverse, ok := gf.Inv(a); !ok || gf.Mul(a, inverse) != 1 {
			t.Errorf("Inv(%d) = %d, %v is no inverse", a, inverse, ok)
		}
		n, ok := gf.Log(a)
		if !ok || n < 0 || n > 254 || gf.Exp(n) != a {
			t.Fatalf("%d is not Exp of its Log %d, %v", a, n, ok)
		}
		if seen[n] {
			t.Errorf("Log %d is of two elements", n)
		}
		seen[n] = true
	}
}

var keep byte

func BenchmarkMul(b *testing.B) {
	for i := range b.N {
		keep ^= gf.Mul(byte(i), byte(i>>8)|1)
	}
}

func BenchmarkAddMul4096(b *testing.B) {
	dst, src := list(4096, 1, 3), list(4096, 2, 5)
	b.SetBytes(4096)
	for range b.N {
		dst, _ = gf.AddMul(dst, src, 29)
	}
}
