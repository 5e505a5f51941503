package stripe_test

import (
	"math"
	"testing"

	"mooring/api"
	"mooring/stripe"
)

// Sp3, by hand: stripes of K 2 are of 32 bytes.
func TestTouchedByHand(t *testing.T) {
	for _, c := range []struct{ k, n, at, length, from, to int }{
		{2, 40, 30, 3, 0, 2}, {2, 40, 0, 40, 0, 2}, {2, 40, 0, 32, 0, 1}, {2, 40, 31, 1, 0, 1}, {2, 40, 31, 2, 0, 2},
		{2, 40, 32, 1, 1, 2}, {2, 40, 32, 8, 1, 2}, {2, 40, 39, 1, 1, 2}, {2, 33, 32, 1, 1, 2}, {2, 64, 32, 32, 1, 2},
		{2, 200, 64, 33, 2, 4}, {2, 200, 63, 1, 1, 2}, {2, 200, 63, 66, 1, 5},
		{1, 4096, 4095, 1, 255, 256}, {1, 4096, 0, 4096, 0, 256}, {1, 4096, 16, 16, 1, 2}, {1, 4096, 15, 2, 0, 2},
		{254, 4096, 4063, 1, 0, 1}, {254, 4096, 4064, 1, 1, 2}, {254, 4096, 4063, 2, 0, 2}, {254, 4096, 0, 4096, 0, 2},
		{2, 40, 0, 0, 0, 0}, {2, 40, 32, 0, 0, 0}, {2, 40, 40, 0, 0, 0}, {2, 0, 0, 0, 0, 0}, {1, 4096, 4096, 0, 0, 0},
	} {
		from, to, e := stripe.Touched(c.k, c.n, c.at, c.length)
		if from != c.from || to != c.to || e != api.OK {
			t.Errorf("Touched(%d, %d, %d, %d) = %d, %d, error %d, want %d, %d", c.k, c.n, c.at, c.length, from, to, e, c.from, c.to)
		}
	}
}

// Sp3: of each piece of short objects, and one byte beyond.
func TestTouched(t *testing.T) {
	for k := 1; k <= 4; k++ {
		for _, n := range []int{0, 1, 16, 33, 64, 100, 130} {
			for at := 0; at <= n+1; at++ {
				for length := 0; length <= n+1; length++ {
					checkTouched(t, k, n, at, length)
				}
			}
		}
	}
}

// Sp3: of pieces about the stripes' ends of objects of each kind, of each K.
func TestTouchedAtEnds(t *testing.T) {
	r := new(numbers)
	for k := 1; k <= 254; k++ {
		for _, n := range []int{1, 16 * k, 16*k + 1, 1000, 4096} {
			if n > 4096 {
				continue
			}
			for range 30 {
				at := min(n, max(0, 16*k*r.below(n/(16*k)+2)+r.below(3)-1))
				end := min(n, max(at, 16*k*r.below(n/(16*k)+2)+r.below(3)-1))
				checkTouched(t, k, n, at, end-at)
				checkTouched(t, k, n, at, n-at)
				checkTouched(t, k, n, at, n-at+1)
			}
		}
	}
}

// checkTouched holds Touched of a K and an object that may be against the words.
func checkTouched(t *testing.T, k, n, at, length int) {
	t.Helper()
	from, to, e := stripe.Touched(k, n, at, length)
	if at+length > n {
		if from != 0 || to != 0 || e != api.ErrArg {
			t.Fatalf("Touched(%d, %d, %d, %d) = %d, %d, error %d, want error 1", k, n, at, length, from, to, e)
		}
		return
	}
	if first, last := slowTouched(k, at, length); from != first || to != last || e != api.OK {
		t.Fatalf("Touched(%d, %d, %d, %d) = %d, %d, error %d, want %d, %d", k, n, at, length, from, to, e, first, last)
	}
}

// Sp3: wrong numbers: what Length refuses goes ahead of pieces that may not be.
func TestTouchedRefuses(t *testing.T) {
	for _, k := range wild() {
		for _, n := range wild() {
			for _, at := range wild() {
				for _, length := range wild() {
					want := touchedError(k, n, at, length)
					from, to, e := stripe.Touched(k, n, at, length)
					if e != want || e != api.OK && (from != 0 || to != 0) {
						t.Fatalf("Touched(%d, %d, %d, %d) = %d, %d, error %d, want error %d", k, n, at, length, from, to, e, want)
					}
				}
			}
		}
	}
	for _, c := range []struct {
		k, n, at, length int
		want             api.Errno
	}{
		{0, 4097, 0, 0, api.ErrArg}, {255, 10, 0, 0, api.ErrArg}, {2, -1, 0, 0, api.ErrArg}, {2, 4097, 0, 1, api.ErrLong},
		{2, 4097, -1, 1, api.ErrLong}, {2, 4097, 0, 5000, api.ErrLong}, {2, 4096, 4096, 1, api.ErrArg},
		{2, 40, -1, 1, api.ErrArg}, {2, 40, 1, -1, api.ErrArg}, {2, 40, 41, 0, api.ErrArg}, {2, 40, 50, -20, api.ErrArg},
		{2, 40, -20, 50, api.ErrArg}, {2, 40, -1, 0, api.ErrArg}, {2, 40, math.MaxInt, 1, api.ErrArg},
		{2, 40, 1, math.MaxInt, api.ErrArg}, {2, 40, math.MaxInt, math.MaxInt, api.ErrArg},
		{2, 40, math.MaxInt, 0, api.ErrArg}, {2, 40, 41, math.MaxInt - 40, api.ErrArg},
	} {
		if from, to, e := stripe.Touched(c.k, c.n, c.at, c.length); from != 0 || to != 0 || e != c.want {
			t.Errorf("Touched(%d, %d, %d, %d) = %d, %d, error %d, want error %d", c.k, c.n, c.at, c.length, from, to, e, c.want)
		}
	}
}

// touchedError is what Touched tells, by floats, in which nothing wraps round.
func touchedError(k, n, at, length int) api.Errno {
	if k < 1 || k > 254 || n < 0 {
		return api.ErrArg
	}
	if n > 4096 {
		return api.ErrLong
	}
	if at < 0 || length < 0 || float64(at)+float64(length) > float64(n) {
		return api.ErrArg
	}
	return api.OK
}
