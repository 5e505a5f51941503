package mix_test

import (
	"math"
	"math/bits"
	"testing"

	"mooring/mix"
)

// top is the greatest number that has a logarithm here, and one is a logarithm's 1.
const (
	top = 65536
	one = 16777216
)

// logOf is the logarithm of a number that has one.
func logOf(t testing.TB, u int) int {
	t.Helper()
	n, ok := mix.Log(u)
	if !ok {
		t.Fatalf("Log(%d) tells false", u)
	}
	return n
}

// The chapter's example.
func TestExample(t *testing.T) {
	for u, want := range map[int]int{1: 0, 3: 26591258} {
		if got := logOf(t, u); got != want {
			t.Errorf("Log(%d) = %d, want %d", u, got, want)
		}
	}
}

// Mi2: logarithms that were worked out elsewhere, by the chapter's words.
func TestLogOfKnownNumbers(t *testing.T) {
	for _, known := range [][2]int{
		{2, one}, {5, 38955489}, {7, 47099599}, {10, 55732705}, {100, 111465410}, {255, 134122994}, {257, 134312092}, {1000, 167198115},
		{4095, 201320681}, {32767, 251657501}, {32769, 251658978}, {40503, 256787725}, {65534, 268434717}, {65535, 268435086}, {top, 16 * one},
	} {
		if got := logOf(t, known[0]); got != known[1] {
			t.Errorf("Log(%d) = %d, want %d", known[0], got, known[1])
		}
	}
}

// Mi2: every number that has a logarithm, digit by digit.
func TestLog(t *testing.T) {
	for u := 1; u <= top; u++ {
		if got, want := logOf(t, u), slowLog(u); got != want {
			t.Fatalf("Log(%d) = %d, want %d", u, got, want)
		}
	}
}

// Mi2: it is a logarithm indeed: what is cut off is hardly more than the last digit.
func TestLogIsALogarithm(t *testing.T) {
	for u := 1; u <= top; u++ {
		if off := math.Log2(float64(u))*one - float64(logOf(t, u)); off < -0.001 || off > 1.1 {
			t.Fatalf("Log(%d) is off by %v", u, off)
		}
	}
}

// Mi2, R1, R2: numbers that have none tell 0 and false, also those whose lowest bits
// alone would be a number that has one.
func TestLogOfWrongNumbers(t *testing.T) {
	wrong := []int{0, -1, -2, -3, -top, top + 1, top + 2, 2 * top, math.MinInt32, math.MaxInt32, math.MinInt, math.MinInt + 1, math.MaxInt, math.MaxInt - 1}
	for bit := 17; bit < bits.UintSize-1; bit++ {
		wrong = append(wrong, 1<<bit-1, 1<<bit, 1<<bit+1, 1<<bit+3, 1<<bit+top, -1<<bit, -1<<bit+1, -1<<bit-1, math.MinInt+1<<bit)
	}
	for u := 1; u <= top; u++ {
		wrong = append(wrong, -u, top+u, math.MinInt+u)
	}
	for _, u := range wrong {
		if n, ok := mix.Log(u); n != 0 || ok {
			t.Fatalf("Log(%d) = %d, %v, want 0, false", u, n, ok)
		}
	}
}

// Mi3: the powers of 2.
func TestLogOfPowers(t *testing.T) {
	for power := range 17 {
		if got := logOf(t, 1<<power); got != power*one {
			t.Errorf("Log(%d) = %d, want %d", 1<<power, got, power*one)
		}
	}
}

// Mi3: the logarithm never falls.
func TestLogNeverFalls(t *testing.T) {
	for u := 1; u < top; u++ {
		if ahead, behind := logOf(t, u), logOf(t, u+1); behind < ahead {
			t.Fatalf("Log(%d) = %d, and Log(%d) = %d", u, ahead, u+1, behind)
		}
	}
}

// Mi3: of twice a number it is 2^24 more.
func TestLogOfTwice(t *testing.T) {
	for u := 1; u <= top/2; u++ {
		if n, twice := logOf(t, u), logOf(t, 2*u); twice != n+one {
			t.Fatalf("Log(%d) = %d, and Log(%d) = %d", u, n, 2*u, twice)
		}
	}
}
