// Package fix is layer 1: numbers of 64 bits of which 2^32 count as 1 (see shared/doc/01-fix.md).
// Nothing wraps: what is too great or too small is brought in to api.Most or api.Least.
package fix

import (
	"math/bits"

	"lightwell/api"
)

const (
	point   = 32      // bits behind the point
	sizeMin = 1 << 63 // the size of api.Least, which no int64 holds
)

// Of tells the whole number n as a number.
func Of(n int) int64 {
	whole := int64(n)
	if whole > api.Most>>point || whole < api.Least>>point {
		return end(whole)
	}
	return whole << point
}

// Floor tells the greatest whole number that is not above x.
func Floor(x int64) int {
	return int(x >> point)
}

// Add tells a + b, brought in.
func Add(a, b int64) int64 {
	sum := a + b
	// It has wrapped just if a and b have one sign and the sum has the other.
	if (a^sum)&(b^sum) < 0 {
		return end(a)
	}
	return sum
}

// Sub tells a - b, brought in. It is not Add of a and Neg(b), for Neg(Least) is one short.
func Sub(a, b int64) int64 {
	rest := a - b
	if (a^b)&(a^rest) < 0 {
		return end(a)
	}
	return rest
}

// Neg tells -a, brought in.
func Neg(a int64) int64 {
	return Sub(0, a)
}

// end tells the last number on a's side of 0.
func end(a int64) int64 {
	if a < 0 {
		return api.Least
	}
	return api.Most
}

// size tells how far a is from 0.
func size(a int64) uint64 {
	if a < 0 {
		return -uint64(a)
	}
	return uint64(a)
}

// signed gives the function that makes a number of a size that was reckoned from the sizes of a and b:
// hi above lo, and whether a rest was cut off. It divides down and brings in.
func signed(a, b int64) func(hi, lo uint64, rest bool) int64 {
	below := a^b < 0
	return func(hi, lo uint64, rest bool) int64 {
		if !below {
			if hi != 0 || lo >= sizeMin {
				return api.Most
			}
			return int64(lo)
		}
		if hi != 0 || lo >= sizeMin {
			return api.Least
		}
		if rest {
			lo++
		}
		return int64(-lo)
	}
}

// Mul tells a times b, divided down, brought in.
func Mul(a, b int64) int64 {
	number := signed(a, b)
	hi, lo := bits.Mul64(size(a), size(b))
	return number(hi>>point, hi<<point|lo>>point, lo<<point != 0)
}

// Div tells a divided by b, divided down, brought in; by 0, the last number on a's side, or 0 of 0.
func Div(a, b int64) int64 {
	if b == 0 {
		if a == 0 {
			return 0
		}
		return end(a)
	}
	number := signed(a, b)
	above, below, by := size(a)>>point, size(a)<<point, size(b)
	if above >= by { // 2^64 or more, which bits.Div64 does not take
		return number(1, 0, false)
	}
	whole, rest := bits.Div64(above, below, by)
	return number(0, whole, rest != 0)
}

// Sqrt tells the root of a, without its rest; 0, if a is not above 0.
func Sqrt(a int64) int64 {
	if a < 1 {
		return 0
	}
	hi, lo := uint64(a)>>point, uint64(a)<<point
	// The first guess is not below the root; from there each is nearer, till the whole root is reached.
	// A guess is never below the whole root, which is above hi, as bits.Div64 asks.
	root := uint64(1) << ((bits.Len64(uint64(a)) + point + 1) / 2)
	for {
		over, _ := bits.Div64(hi, lo, root)
		next := (root + over) / 2
		if next >= root {
			return int64(root)
		}
		root = next
	}
}
