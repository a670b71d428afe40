package frac

import (
	"graphdb/api"
	"graphdb/num"
	"math/bits"
)

// wide is an integer of 128 bits in two's complement: a product of two integers in range needs up to 101 of them, and a sum of two products 102.
type wide struct{ high, low uint64 }

// product returns n * d, where d must not be negative.
func product(n, d int) wide {
	high, low := bits.Mul64(uint64(n), uint64(d))
	// A negative n counted as n + 2^64, which is d * 2^64 too much.
	if n < 0 {
		high -= uint64(d)
	}
	return wide{high, low}
}

// plus returns the sum of a and b.
func (a wide) plus(b wide) wide {
	low, carry := bits.Add64(a.low, b.low, 0)
	high, _ := bits.Add64(a.high, b.high, carry)
	return wide{high, low}
}

// sign returns -1, 0 or 1 if a is negative, 0 or positive.
func (a wide) sign() int {
	if a.high>>63 == 1 {
		return -1
	}
	if a.high|a.low == 0 {
		return 0
	}
	return 1
}

// abs returns the absolute value of a.
func (a wide) abs() wide {
	if a.sign() >= 0 {
		return a
	}
	low, borrow := bits.Sub64(0, a.low, 0)
	high, _ := bits.Sub64(0, a.high, borrow)
	return wide{high, low}
}

// gcd returns the greatest common divisor of a and d, which must be from 1 to MaxInt.
func (a wide) gcd(d int) int {
	size := a.abs()
	rest := bits.Rem64(size.high, size.low, uint64(d))
	return num.Gcd(int(rest), d)
}

// over returns the quotient of a and d, which must be positive and divide a. It returns false if the quotient is not in range.
func (a wide) over(d int) (int, bool) {
	size := a.abs()
	// The quotient of Div64 has 64 bits; it panics where that is too few.
	if size.high >= uint64(d) {
		return 0, false
	}
	quotient, _ := bits.Div64(size.high, size.low, uint64(d))
	if quotient > api.MaxInt {
		return 0, false
	}
	return a.sign() * int(quotient), true
}
