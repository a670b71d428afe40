package num_test

import (
	"graphdb/api"
	"graphdb/num"
	"math"
	"math/big"
	"strconv"
	"strings"
	"testing"
)

// samples returns integers at and beside every boundary that the promises name, and ordinary ones.
func samples() []int {
	positive := []int{
		1, 2, 3, 4, 5, 6, 7, 9, 10, 11, 12, 18, 99, 100, 101, 1000, 65536,
		// About the square root of MaxInt, where squares leave the range.
		31622775, 31622776, 31622777, 31622778,
		// Pairs whose product is about MaxInt.
		100000000, 100000001, 10000000, 10000001, 333333333333333, 333333333333334, 142857142857142, 142857142857143,
		// Powers of 2, where products wrap around to 0.
		1 << 31, 1 << 32, 1<<32 + 1, 1 << 33, 1 << 49,
		api.MaxInt / 2, api.MaxInt/2 + 1,
		api.MaxInt - 1, api.MaxInt, api.MaxInt + 1, api.MaxInt + 2, 2 * api.MaxInt, 2*api.MaxInt + 1,
		// Near the end of int, where sums wrap around.
		1 << 62, math.MaxInt - api.MaxInt, math.MaxInt - 1, math.MaxInt,
	}
	l := []int{0, math.MinInt}
	for _, n := range positive {
		l = append(l, n, -n)
	}
	return l
}

// inRange returns those samples whose absolute value is at most MaxInt.
func inRange() []int {
	var l []int
	for _, n := range samples() {
		if fits(big.NewInt(int64(n))) {
			l = append(l, n)
		}
	}
	return l
}

// fits reports whether n is in range, by arithmetic that cannot wrap around.
func fits(n *big.Int) bool {
	return n.CmpAbs(big.NewInt(api.MaxInt)) <= 0
}

// checkAgainst compares call with the exact operation on all pairs of samples.
func checkAgainst(t *testing.T, name string, call func(a, b int) (int, bool), exact func(z, a, b *big.Int) *big.Int, noZero bool) {
	t.Helper()
	for _, a := range samples() {
		for _, b := range samples() {
			x, y := big.NewInt(int64(a)), big.NewInt(int64(b))
			want, wantOk := 0, false
			if fits(x) && fits(y) && !(noZero && b == 0) {
				if z := exact(new(big.Int), x, y); fits(z) {
					want, wantOk = int(z.Int64()), true
				}
			}
			if n, ok := call(a, b); n != want || ok != wantOk {
				t.Errorf("%s(%d, %d) = %d, %v; want %d, %v", name, a, b, n, ok, want, wantOk)
			}
		}
	}
}

// result is what a call with two operands must return.
type result struct {
	a, b, n int
	ok      bool
}

func checkResults(t *testing.T, name string, call func(a, b int) (int, bool), l []result) {
	t.Helper()
	for _, r := range l {
		if n, ok := call(r.a, r.b); n != r.n || ok != r.ok {
			t.Errorf("%s(%d, %d) = %d, %v; want %d, %v", name, r.a, r.b, n, ok, r.n, r.ok)
		}
	}
}

// P1.1
func TestIn(t *testing.T) {
	for _, n := range []int{0, 1, -1, 42, -42, 999999999999999, -999999999999999, 1000000000000000, -1000000000000000} {
		if !num.In(n) {
			t.Errorf("In(%d) is false", n)
		}
	}
	for _, n := range []int{1000000000000001, -1000000000000001, 2000000000000000, -2000000000000000, math.MaxInt, math.MaxInt - 1, math.MinInt, math.MinInt + 1} {
		if num.In(n) {
			t.Errorf("In(%d) is true", n)
		}
	}
	for _, n := range samples() {
		if num.In(n) != fits(big.NewInt(int64(n))) {
			t.Errorf("In(%d) = %v", n, num.In(n))
		}
	}
}

// P1.2
func TestAdd(t *testing.T) {
	checkResults(t, "Add", num.Add, []result{
		{2, 3, 5, true},
		{-2, -3, -5, true},
		{7, -7, 0, true},
		{999999999999999, 1, 1000000000000000, true},
		{-999999999999999, -1, -1000000000000000, true},
		{1000000000000000, -1000000000000000, 0, true},
		{1000000000000000, 1, 0, false},
		{-1000000000000000, -1, 0, false},
		{1000000000000000, 1000000000000000, 0, false},
		{1000000000000001, -1, 0, false},
		{-1, 1000000000000001, 0, false},
		{-1000000000000001, 1, 0, false},
		{1, -1000000000000001, 0, false},
		{math.MinInt, math.MinInt, 0, false},
		{math.MaxInt, math.MinInt, 0, false},
		{math.MaxInt, -math.MaxInt, 0, false},
		{math.MaxInt, 1, 0, false},
	})
	checkAgainst(t, "Add", num.Add, (*big.Int).Add, false)
}

// P1.2
func TestSub(t *testing.T) {
	checkResults(t, "Sub", num.Sub, []result{
		{2, 3, -1, true},
		{3, 2, 1, true},
		{-2, -3, 1, true},
		{0, 1000000000000000, -1000000000000000, true},
		{999999999999999, -1, 1000000000000000, true},
		{-999999999999999, 1, -1000000000000000, true},
		{1000000000000000, -1, 0, false},
		{-1000000000000000, 1, 0, false},
		{1000000000000001, 1, 0, false},
		{1, 1000000000000001, 0, false},
		{-1000000000000001, -1, 0, false},
		{-1, -1000000000000001, 0, false},
		{math.MinInt, math.MinInt, 0, false},
		{math.MaxInt, math.MaxInt, 0, false},
		{0, math.MinInt, 0, false},
	})
	checkAgainst(t, "Sub", num.Sub, (*big.Int).Sub, false)
}

// P1.2
func TestMul(t *testing.T) {
	checkResults(t, "Mul", num.Mul, []result{
		{6, 7, 42, true},
		{-6, 7, -42, true},
		{6, -7, -42, true},
		{-6, -7, 42, true},
		{0, 1000000000000000, 0, true},
		{-1000000000000000, 0, 0, true},
		{-1000000000000000, -1, 1000000000000000, true},
		{100000000, 10000000, 1000000000000000, true},
		{-100000000, 10000000, -1000000000000000, true},
		{3, 333333333333333, 999999999999999, true},
		{31622776, 31622776, 999999961946176, true},
		{100000000, 10000001, 0, false},
		{-100000000, 10000001, 0, false},
		{3, 333333333333334, 0, false},
		{31622777, 31622777, 0, false},
		// The exact products are 2^64 and 2^65 + 2^33, which wrap around to 0 and 2^33.
		{1 << 32, 1 << 32, 0, false},
		{1 << 33, 1<<32 + 1, 0, false},
		{0, 1000000000000001, 0, false},
		{1000000000000001, 0, 0, false},
		{-1000000000000001, 0, 0, false},
		{math.MinInt, -1, 0, false},
		{-1, math.MinInt, 0, false},
		{math.MinInt, 0, 0, false},
		{0, math.MinInt, 0, false},
		{math.MinInt, math.MinInt, 0, false},
		{math.MaxInt, math.MaxInt, 0, false},
	})
	checkAgainst(t, "Mul", num.Mul, (*big.Int).Mul, false)
}

// P1.3
func TestDiv(t *testing.T) {
	checkResults(t, "Div", num.Div, []result{
		{7, 2, 3, true},
		{-7, 2, -3, true},
		{7, -2, -3, true},
		{-7, -2, 3, true},
		{1, 2, 0, true},
		{-1, 2, 0, true},
		{0, -5, 0, true},
		{1000000000000000, -1, -1000000000000000, true},
		{-1000000000000000, -1, 1000000000000000, true},
		{999999999999999, 1000000000000000, 0, true},
		{1, 0, 0, false},
		{0, 0, 0, false},
		{-1000000000000000, 0, 0, false},
		{1000000000000001, 2, 0, false},
		{2, 1000000000000001, 0, false},
		{-1000000000000001, 2, 0, false},
		{2, -1000000000000001, 0, false},
		{math.MinInt, -1, 0, false},
		{math.MinInt, 0, 0, false},
		{math.MaxInt, math.MaxInt, 0, false},
	})
	checkAgainst(t, "Div", num.Div, (*big.Int).Quo, true)
}

// P1.3
func TestMod(t *testing.T) {
	checkResults(t, "Mod", num.Mod, []result{
		{7, 2, 1, true},
		{-7, 2, -1, true},
		{7, -2, 1, true},
		{-7, -2, -1, true},
		{6, 3, 0, true},
		{-6, 3, 0, true},
		{0, -5, 0, true},
		{-1000000000000000, -1, 0, true},
		{-999999999999999, 1000000000000000, -999999999999999, true},
		{1, 0, 0, false},
		{0, 0, 0, false},
		{1000000000000001, 2, 0, false},
		{2, 1000000000000001, 0, false},
		{-1000000000000001, 2, 0, false},
		{2, -1000000000000001, 0, false},
		{math.MinInt, -1, 0, false},
		{math.MinInt, 0, 0, false},
		{math.MaxInt, math.MaxInt, 0, false},
	})
	checkAgainst(t, "Mod", num.Mod, (*big.Int).Rem, true)
}

// P1.4
func TestGcd(t *testing.T) {
	for _, c := range []struct{ a, b, n int }{
		{12, -18, 6},
		{12, 18, 6},
		{-12, 18, 6},
		{-12, -18, 6},
		{7, 5, 1},
		{1, 1000000000000000, 1},
		{5, 0, 5},
		{-5, 0, 5},
		{0, 5, 5},
		{0, -4, 4},
		{0, 0, 0},
		{1000000000000000, -1000000000000000, 1000000000000000},
		{-1000000000000000, 0, 1000000000000000},
		{1000000000000000, 999999999999999, 1},
		{1000000000000000, 64, 64},
		{1000000000000001, 5, 0},
		{5, 1000000000000001, 0},
		{-1000000000000001, 0, 0},
		{0, -1000000000000001, 0},
		{math.MinInt, 0, 0},
		{0, math.MinInt, 0},
		{math.MinInt, -1, 0},
		{math.MinInt, math.MinInt, 0},
		{math.MaxInt, math.MaxInt, 0},
	} {
		if n := num.Gcd(c.a, c.b); n != c.n {
			t.Errorf("Gcd(%d, %d) = %d; want %d", c.a, c.b, n, c.n)
		}
	}
	gcd := func(a, b int) (int, bool) { return num.Gcd(a, b), num.In(a) && num.In(b) }
	checkAgainst(t, "Gcd", gcd, func(z, a, b *big.Int) *big.Int {
		return z.GCD(nil, nil, new(big.Int).Abs(a), new(big.Int).Abs(b))
	}, false)
}

// P1.5
func TestText(t *testing.T) {
	for _, c := range []struct {
		n int
		s string
	}{
		{0, "0"},
		{5, "5"},
		{-5, "-5"},
		{10, "10"},
		{-100, "-100"},
		{1234567890, "1234567890"},
		{1000000000000000, "1000000000000000"},
		{-1000000000000000, "-1000000000000000"},
		{1000000000000001, "1000000000000001"},
		{math.MaxInt, "9223372036854775807"},
		{math.MinInt, "-9223372036854775808"},
	} {
		if s := num.Text(c.n); s != c.s {
			t.Errorf("Text(%d) = %q; want %q", c.n, s, c.s)
		}
	}
	for _, n := range samples() {
		if s, want := num.Text(n), big.NewInt(int64(n)).String(); s != want {
			t.Errorf("Text(%d) = %q; want %q", n, s, want)
		}
	}
}

// P1.6
func TestParse(t *testing.T) {
	for _, c := range []struct {
		s string
		n int
	}{
		{"0", 0},
		{"5", 5},
		{"-5", -5},
		{"10", 10},
		{"-120", -120},
		{"999999999999999", 999999999999999},
		{"1000000000000000", 1000000000000000},
		{"-1000000000000000", -1000000000000000},
	} {
		if n, ok := num.Parse(c.s); n != c.n || !ok {
			t.Errorf("Parse(%q) = %d, %v; want %d", c.s, n, ok, c.n)
		}
	}
	for _, n := range samples() {
		want := n
		if !num.In(n) {
			want = 0
		}
		if m, ok := num.Parse(num.Text(n)); m != want || ok != num.In(n) {
			t.Errorf("Parse(Text(%d)) = %d, %v", n, m, ok)
		}
	}
}

// P1.6
func TestParseRejects(t *testing.T) {
	for _, s := range []string{
		"", "-", "+", "-0", "+0", "00", "05", "-05", "+5", "--5", "-+5", "5-", "0x5", "0b1", "1e3", "1.0", "1_000", "1,000",
		" 5", "5 ", "- 5", "\t5", "5\n", "5\x00", "\x005", "\xff", "5\xff", "a", "5a", "a5", "null", ":", "/",
		"\u0665", "\uff15", "\u22125", "\u00b2",
		"1000000000000001", "-1000000000000001", "9999999999999999", "01000000000000000",
		"9223372036854775807", "-9223372036854775808", "9223372036854775808", "-9223372036854775809",
		// 2^64, 2^64 + 5 and -2^64 - 5, which wrap around into the range.
		"18446744073709551616", "18446744073709551621", "-18446744073709551621",
		strings.Repeat("9", 1000), "-" + strings.Repeat("9", 1000), strings.Repeat("0", 1000) + "5", "1" + strings.Repeat("0", 64),
	} {
		if n, ok := num.Parse(s); n != 0 || ok {
			t.Errorf("Parse(%q) = %d, %v; want 0, false", s, n, ok)
		}
	}
}

// P1.6: among all short strings of these characters, exactly the texts of integers are accepted.
func TestParseShortStrings(t *testing.T) {
	texts := map[string]int{}
	for n := -99; n <= 999; n++ {
		texts[strconv.Itoa(n)] = n
	}
	level := []string{""}
	for range 3 {
		var next []string
		for _, s := range level {
			for _, c := range "-+0123456789 _x" {
				next = append(next, s+string(c))
			}
		}
		for _, s := range next {
			want, wantOk := texts[s]
			if n, ok := num.Parse(s); n != want || ok != wantOk {
				t.Errorf("Parse(%q) = %d, %v; want %d, %v", s, n, ok, want, wantOk)
			}
		}
		level = next
	}
}

// P1.7
func TestCommutative(t *testing.T) {
	for _, a := range samples() {
		for _, b := range samples() {
			m, mOk := num.Add(a, b)
			n, nOk := num.Add(b, a)
			if m != n || mOk != nOk {
				t.Errorf("Add(%d, %d) = %d, %v, but Add(%d, %d) = %d, %v", a, b, m, mOk, b, a, n, nOk)
			}
			m, mOk = num.Mul(a, b)
			n, nOk = num.Mul(b, a)
			if m != n || mOk != nOk {
				t.Errorf("Mul(%d, %d) = %d, %v, but Mul(%d, %d) = %d, %v", a, b, m, mOk, b, a, n, nOk)
			}
		}
	}
}

// checkAssociative compares both ways to combine three samples, where all results are in range.
func checkAssociative(t *testing.T, name string, call func(a, b int) (int, bool)) {
	t.Helper()
	compared := 0
	for _, a := range inRange() {
		for _, b := range inRange() {
			for _, c := range inRange() {
				left, ok1 := call(a, b)
				right, ok2 := call(b, c)
				if !ok1 || !ok2 {
					continue
				}
				m, mOk := call(left, c)
				n, nOk := call(a, right)
				compared++
				// Both are the same exact number, so they are in range together.
				if m != n || mOk != nOk {
					t.Errorf("%s of %d, %d, %d: %d, %v from the left, %d, %v from the right", name, a, b, c, m, mOk, n, nOk)
				}
			}
		}
	}
	if compared == 0 {
		t.Errorf("%s: nothing was compared", name)
	}
}

// P1.7
func TestAssociative(t *testing.T) {
	checkAssociative(t, "Add", num.Add)
	checkAssociative(t, "Mul", num.Mul)
}

// P1.7
func TestDistributive(t *testing.T) {
	compared := 0
	for _, a := range inRange() {
		for _, b := range inRange() {
			for _, c := range inRange() {
				sum, ok1 := num.Add(b, c)
				ab, ok2 := num.Mul(a, b)
				ac, ok3 := num.Mul(a, c)
				if !ok1 || !ok2 || !ok3 {
					continue
				}
				m, mOk := num.Mul(a, sum)
				n, nOk := num.Add(ab, ac)
				compared++
				if m != n || mOk != nOk {
					t.Errorf("%d * (%d + %d) = %d, %v, but %d + %d = %d, %v", a, b, c, m, mOk, ab, ac, n, nOk)
				}
			}
		}
	}
	if compared == 0 {
		t.Error("nothing was compared")
	}
}

// P1.7
func TestQuotientAndRemainder(t *testing.T) {
	for _, a := range inRange() {
		for _, b := range inRange() {
			if b == 0 {
				continue
			}
			q, qOk := num.Div(a, b)
			r, rOk := num.Mod(a, b)
			if !qOk || !rOk {
				t.Errorf("Div or Mod of %d, %d has no result", a, b)
				continue
			}
			product, productOk := num.Mul(b, q)
			sum, sumOk := num.Add(product, r)
			if !productOk || !sumOk || sum != a {
				t.Errorf("%d*%d + %d = %d, %v; want %d", b, q, r, sum, productOk && sumOk, a)
			}
			if big.NewInt(int64(r)).CmpAbs(big.NewInt(int64(b))) >= 0 {
				t.Errorf("Mod(%d, %d) = %d is not smaller than %d", a, b, r, b)
			}
		}
	}
}
