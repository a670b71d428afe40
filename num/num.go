// Package num is layer 1: integers with a bounded range. See shared/doc/01-num.md.
package num

import (
	"graphdb/api"
	"strconv"
)

// In reports whether n is from -MaxInt to MaxInt.
func In(n int) bool {
	return -api.MaxInt <= n && n <= api.MaxInt
}

// Add returns the sum of a and b. It returns false if an operand or the sum is not in range.
func Add(a, b int) (int, bool) {
	if !In(a) || !In(b) {
		return 0, false
	}
	// The operands are far below the greatest int, so the sum does not wrap around.
	return inRange(a + b)
}

// Sub returns the difference of a and b. It returns false if an operand or the difference is not in range.
func Sub(a, b int) (int, bool) {
	if !In(a) || !In(b) {
		return 0, false
	}
	// As in Add, the difference does not wrap around.
	return inRange(a - b)
}

// Mul returns the product of a and b. It returns false if an operand or the product is not in range.
func Mul(a, b int) (int, bool) {
	if !In(a) || !In(b) {
		return 0, false
	}
	// The product of two operands in range can exceed int, so its size is tested by a division, before it is computed.
	if a != 0 && abs(b) > api.MaxInt/abs(a) {
		return 0, false
	}
	return a * b, true
}

// Div returns the quotient of a and b, truncated toward zero. It returns false if an operand is not in range or b is 0.
func Div(a, b int) (int, bool) {
	if !divisible(a, b) {
		return 0, false
	}
	return a / b, true
}

// Mod returns the remainder of Div, which is 0 or has the sign of a. It returns false if an operand is not in range or b is 0.
func Mod(a, b int) (int, bool) {
	if !divisible(a, b) {
		return 0, false
	}
	return a % b, true
}

// Gcd returns the greatest common divisor of the absolute values of a and b. It returns 0 if an operand is not in range.
func Gcd(a, b int) int {
	if !In(a) || !In(b) {
		return 0
	}
	a, b = abs(a), abs(b)
	for b != 0 {
		a, b = b, a%b
	}
	return a
}

// Text returns the decimal form of n, for every int.
func Text(n int) string {
	return strconv.Itoa(n)
}

// Parse returns the integer in range whose Text is s. It returns false if there is none.
func Parse(s string) (int, bool) {
	n, err := strconv.Atoi(s)
	// Atoi also reads other writings of n, such as +5, 05 and -0.
	if err != nil || !In(n) || Text(n) != s {
		return 0, false
	}
	return n, true
}

// inRange turns a result into that of a call: a result out of range is not returned.
func inRange(n int) (int, bool) {
	if !In(n) {
		return 0, false
	}
	return n, true
}

// divisible reports whether Div and Mod have a result. Operands in range exclude the one quotient that int lacks, that of the least int and -1.
func divisible(a, b int) bool {
	return In(a) && In(b) && b != 0
}

// abs returns the absolute value of n, which must be in range: the least int has none.
func abs(n int) int {
	if n < 0 {
		return -n
	}
	return n
}
