package sat_test

import (
	"math"
	"math/big"
	"testing"

	"floodgate/sat"
)

const most = uint64(math.MaxUint64)

// edges are the numbers beside which the calls change what they do.
var edges = []uint64{
	0, 1, 2, 3, 5, 7, 10, 12,
	1<<16 - 1, 1 << 16,
	1<<31 - 1, 1 << 31, 1<<32 - 1, 1 << 32, 1<<32 + 1,
	1 << 48, 1<<62 + 1,
	1<<63 - 1, 1 << 63, 1<<63 + 1,
	most - 1, most,
}

var shifts = []int{
	math.MinInt, -65, -64, -1,
	0, 1, 2, 31, 32, 33, 62, 63, 64, 65, 70, 128, 1 << 20, math.MaxInt,
}

func whole(n uint64) *big.Int { return new(big.Int).SetUint64(n) }

// atMost cuts a whole number of any size to an end.
func atMost(n *big.Int, end uint64) uint64 {
	if n.Cmp(whole(end)) > 0 {
		return end
	}
	return n.Uint64()
}

func sum(a, b uint64) *big.Int { return new(big.Int).Add(whole(a), whole(b)) }

func product(a, b uint64) *big.Int { return new(big.Int).Mul(whole(a), whole(b)) }

// P1.1
func TestAddSubMulExamples(t *testing.T) {
	for _, c := range []struct{ a, b, add, sub, mul uint64 }{
		{0, 0, 0, 0, 0},
		{2, 3, 5, 0, 6},
		{7, 5, 12, 2, 35},
		{5, 5, 10, 0, 25},
		{0, most, most, 0, 0},
		{most, 0, most, most, 0},
		{most, 1, most, most - 1, most},
		{1, most, most, 0, most},
		{most - 1, 1, most, most - 2, most - 1},
		{most - 1, 2, most, most - 3, most},
		{most, most, most, 0, most},
		{1 << 63, 1 << 63, most, 0, most},
		{1 << 63, 2, 1<<63 + 2, 1<<63 - 2, most},
		{1<<63 - 1, 2, 1<<63 + 1, 1<<63 - 3, most - 1},
		{1 << 32, 1 << 32, 1 << 33, 0, most},
		{1<<32 + 1, 1<<32 - 1, 1 << 33, 2, most},
		{1<<32 - 1, 1<<32 - 1, 1<<33 - 2, 0, 1<<64 - 1<<33 + 1},
	} {
		if x := sat.Add(c.a, c.b); x != c.add {
			t.Errorf("Add(%d, %d) = %d, not %d", c.a, c.b, x, c.add)
		}
		if x := sat.Sub(c.a, c.b); x != c.sub {
			t.Errorf("Sub(%d, %d) = %d, not %d", c.a, c.b, x, c.sub)
		}
		if x := sat.Mul(c.a, c.b); x != c.mul {
			t.Errorf("Mul(%d, %d) = %d, not %d", c.a, c.b, x, c.mul)
		}
	}
}

// P1.1, held against whole numbers of any size.
func TestAddSubMulAtEdges(t *testing.T) {
	for _, a := range edges {
		for _, b := range edges {
			if x, want := sat.Add(a, b), atMost(sum(a, b), most); x != want {
				t.Errorf("Add(%d, %d) = %d, not %d", a, b, x, want)
			}
			if x, want := sat.Mul(a, b), atMost(product(a, b), most); x != want {
				t.Errorf("Mul(%d, %d) = %d, not %d", a, b, x, want)
			}
			difference := new(big.Int).Sub(whole(a), whole(b))
			if difference.Sign() < 0 {
				difference.SetInt64(0)
			}
			if x, want := sat.Sub(a, b), difference.Uint64(); x != want {
				t.Errorf("Sub(%d, %d) = %d, not %d", a, b, x, want)
			}
		}
	}
}

// P1.1
func TestShiftExamples(t *testing.T) {
	for _, c := range []struct {
		a           uint64
		n           int
		left, right uint64
	}{
		{12, 2, 48, 3},
		{13, 2, 52, 3},
		{15, 1, 30, 7},
		{12, 0, 12, 12},
		{12, -1, 12, 12},
		{12, math.MinInt, 12, 12},
		{most, -1, most, most},
		{0, -1, 0, 0},
		{0, 64, 0, 0},
		{0, math.MaxInt, 0, 0},
		{1, 63, 1 << 63, 0},
		{1, 64, most, 0},
		{1, math.MaxInt, most, 0},
		{2, 63, most, 0},
		{3, 62, 3 << 62, 0},
		{3, 63, most, 0},
		{most, 0, most, most},
		{most, 1, most, 1<<63 - 1},
		{most, 63, most, 1},
		{most, 64, most, 0},
		{most, math.MaxInt, most, 0},
	} {
		if x := sat.Shl(c.a, c.n); x != c.left {
			t.Errorf("Shl(%d, %d) = %d, not %d", c.a, c.n, x, c.left)
		}
		if x := sat.Shr(c.a, c.n); x != c.right {
			t.Errorf("Shr(%d, %d) = %d, not %d", c.a, c.n, x, c.right)
		}
	}
}

// P1.1, held against doubling and halving n times.
func TestShiftsAtEdges(t *testing.T) {
	for _, a := range edges {
		for _, n := range shifts {
			left, right := whole(a), a
			// Behind 65 doublings or halvings no further one is to be seen.
			for range min(max(n, 0), 65) {
				left.Lsh(left, 1)
				right /= 2
			}
			if x, want := sat.Shl(a, n), atMost(left, most); x != want {
				t.Errorf("Shl(%d, %d) = %d, not %d", a, n, x, want)
			}
			if x := sat.Shr(a, n); x != right {
				t.Errorf("Shr(%d, %d) = %d, not %d", a, n, x, right)
			}
		}
	}
}

// P1.1
func TestLog(t *testing.T) {
	for _, c := range []struct {
		a   uint64
		log int
	}{{0, 0}, {1, 1}, {2, 2}, {3, 2}, {4, 3}, {5, 3}, {255, 8}, {256, 9}, {most, 64}} {
		if x := sat.Log(c.a); x != c.log {
			t.Errorf("Log(%d) = %d, not %d", c.a, x, c.log)
		}
	}
	for n := range 64 {
		first := uint64(1) << n
		if x := sat.Log(first); x != n+1 {
			t.Errorf("Log(%d) = %d, not %d", first, x, n+1)
		}
		if x := sat.Log(first - 1); x != n {
			t.Errorf("Log(%d) = %d, not %d", first-1, x, n)
		}
	}
}

// P1.2
func TestRefillExamples(t *testing.T) {
	for _, c := range []struct{ level, rate, ticks, most, want uint64 }{
		{5, 3, 4, 10, 10},
		{5, 3, 4, 16, 16},
		{5, 3, 4, 17, 17},
		{5, 3, 4, 18, 17},
		{5, 0, 4, 10, 5},
		{5, 3, 0, 10, 5},
		{0, 0, 0, 0, 0},
		{9, 0, 5, 3, 3},
		{9, 2, 5, 0, 0},
		{most, 0, 0, most, most},
		{most, 1, 1, most, most},
		{most, most, most, most, most},
		{most, most, most, 1 << 48, 1 << 48},
		{most - 6, 2, 3, most, most},
		{most - 7, 2, 3, most, most - 1},
		{1, 1 << 32, 1 << 32, most, most},
		{1, 1 << 32, 1 << 32, 7, 7},
		{0, 1 << 32, 1<<32 - 1, most, 1<<64 - 1<<32},
	} {
		if x := sat.Refill(c.level, c.rate, c.ticks, c.most); x != c.want {
			t.Errorf("Refill(%d, %d, %d, %d) = %d, not %d", c.level, c.rate, c.ticks, c.most, x, c.want)
		}
	}
}

// P1.2
func TestCrossExamples(t *testing.T) {
	for _, c := range []struct {
		a, b, c, d uint64
		want       int
	}{
		{2, 3, 1, 7, -1},
		{1, 7, 2, 3, 1},
		{2, 3, 1, 6, 0},
		{0, 0, 0, 0, 0},
		{0, most, most, 0, 0},
		{0, most, 1, 1, -1},
		{1, 1, 0, most, 1},
		{most, most, most, most, 0},
		{most, most, most, most - 1, 1},
		{most, most - 1, most, most, -1},
		{1 << 32, 1 << 32, 1 << 63, 2, 0},
		{1 << 32, 1 << 32, most, 1, 1},
		{most, 1, 1 << 32, 1 << 32, -1},
		// Wrapped round or cut to an end these two would be the same.
		{1 << 32, 1 << 32, 1 << 33, 1 << 33, -1},
		{1 << 33, 1 << 33, 1 << 32, 1 << 32, 1},
		// The high halves say one thing, the low ones another.
		{1 << 63, 2, most, 1, 1},
		{most, 2, 1 << 63, 4, -1},
	} {
		if x := sat.Cross(c.a, c.b, c.c, c.d); x != c.want {
			t.Errorf("Cross(%d, %d, %d, %d) = %d, not %d", c.a, c.b, c.c, c.d, x, c.want)
		}
	}
}

// P1.2, held against whole numbers of any size.
func TestRefillAndCrossAtEdges(t *testing.T) {
	for _, a := range edges {
		for _, b := range edges {
			first := product(a, b)
			for _, c := range edges {
				filled := new(big.Int).Add(whole(c), first)
				for _, d := range edges {
					if x, want := sat.Refill(c, a, b, d), atMost(filled, d); x != want {
						t.Errorf("Refill(%d, %d, %d, %d) = %d, not %d", c, a, b, d, x, want)
					}
					if x, want := sat.Cross(a, b, c, d), first.Cmp(product(c, d)); x != want {
						t.Errorf("Cross(%d, %d, %d, %d) = %d, not %d", a, b, c, d, x, want)
					}
				}
			}
		}
	}
}

// P1.3
func TestInt(t *testing.T) {
	for _, a := range []uint64{0, 1, 1500, math.MaxInt - 1, math.MaxInt} {
		if n, ok := sat.Int(a); n != int(a) || !ok {
			t.Errorf("Int(%d) = %d, %t", a, n, ok)
		}
	}
	for _, a := range []uint64{math.MaxInt + 1, math.MaxInt + 2, most - 1, most} {
		if n, ok := sat.Int(a); n != 0 || ok {
			t.Errorf("Int(%d) = %d, %t, not 0, false", a, n, ok)
		}
	}
}

// P1.3
func TestUint(t *testing.T) {
	for _, n := range []int{0, 1, 1500, math.MaxInt - 1, math.MaxInt} {
		if a, ok := sat.Uint(n); a != uint64(n) || !ok {
			t.Errorf("Uint(%d) = %d, %t", n, a, ok)
		}
	}
	for _, n := range []int{-1, -2, math.MinInt + 1, math.MinInt} {
		if a, ok := sat.Uint(n); a != 0 || ok {
			t.Errorf("Uint(%d) = %d, %t, not 0, false", n, a, ok)
		}
	}
}
