// Package sat is layer 1: numbers that stay at their ends. See shared/doc/01-sat.md.
package sat

import (
	"math"
	"math/bits"
)

// end is what the document calls MOST.
const end uint64 = math.MaxUint64

// Add: the sum, at most 2^64 - 1.
func Add(a, b uint64) uint64 {
	sum, carry := bits.Add64(a, b, 0)
	if carry != 0 {
		return end
	}
	return sum
}

// Sub: the difference, at least 0.
func Sub(a, b uint64) uint64 {
	if b > a {
		return 0
	}
	return a - b
}

// Mul: the product, at most 2^64 - 1.
func Mul(a, b uint64) uint64 {
	high, low := bits.Mul64(a, b)
	if high != 0 {
		return end
	}
	return low
}

// Shl: a times 2 to the power of n, at most 2^64 - 1; a itself, if n is below 0.
func Shl(a uint64, n int) uint64 {
	// 0 has no highest bit that could be pushed out, however far it goes.
	if n < 0 || a == 0 {
		return a
	}
	if n > bits.LeadingZeros64(a) {
		return end
	}
	return a << n
}

// Shr: a over 2 to the power of n, rounded down; a itself, if n is below 0.
func Shr(a uint64, n int) uint64 {
	if n < 0 {
		return a
	}
	return a >> n
}

// Log: how many bits a has, without leading zeros.
func Log(a uint64) int { return bits.Len64(a) }

// Refill: level and rate times ticks, or most, whichever is less.
func Refill(level, rate, ticks, most uint64) uint64 {
	// No most is above the end at which Add and Mul stay, so a sum beyond it is cut to most all the same.
	return min(Add(level, Mul(rate, ticks)), most)
}

// Cross: -1, 0 or 1, as a times b is below c times d, the same, or above.
func Cross(a, b, c, d uint64) int {
	high1, low1 := bits.Mul64(a, b)
	high2, low2 := bits.Mul64(c, d)
	if high1 != high2 {
		return compare(high1, high2)
	}
	return compare(low1, low2)
}

func compare(a, b uint64) int {
	switch {
	case a < b:
		return -1
	case a > b:
		return 1
	}
	return 0
}

// Int: the int of a number, and whether there is one.
func Int(a uint64) (int, bool) {
	if a > math.MaxInt {
		return 0, false
	}
	return int(a), true
}

// Uint: the number of an int, and whether there is one.
func Uint(n int) (uint64, bool) {
	if n < 0 {
		return 0, false
	}
	return uint64(n), true
}
