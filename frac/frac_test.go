package frac_test

import (
	"graphdb/api"
	"graphdb/frac"
	"math"
	"math/big"
	"math/rand"
	"slices"
	"strconv"
	"strings"
	"testing"
)

const m = api.MaxInt

// least and greatest are the ends of int.
const (
	least    = math.MinInt
	greatest = math.MaxInt
)

// ratio returns the fraction n/d, valid or not.
func ratio(n, d int) api.Frac {
	return api.Frac{N: n, D: d}
}

// integers returns integers at and beside every boundary that the chapter names, and ordinary ones.
func integers() []int {
	positive := []int{
		1, 2, 3, 4, 6, 7, 10, 12, 1001, 32768,
		// Powers of 2, whose products wrap around to 0.
		1 << 31, 1 << 32, 1 << 49,
		// About the square root of MaxInt, where squares leave the range.
		31622776, 31622777,
		// Factors of MaxInt and of MaxInt + 1.
		30517578125, 999000999001,
		m / 2, m/2 + 1, m - 1, m, m + 1, m + 2, 2 * m, 2*m + 1,
		// Near the end of int, where sums wrap around.
		1 << 62, greatest - 1, greatest,
	}
	l := []int{0, least}
	for _, n := range positive {
		l = append(l, n, -n)
	}
	return l
}

// isValid reports whether n/d satisfies the definition of a valid fraction, by other arithmetic.
func isValid(n, d int) bool {
	if d < 1 || d > 1000000000000000 || n < -1000000000000000 || n > 1000000000000000 {
		return false
	}
	g := new(big.Int).GCD(nil, nil, new(big.Int).Abs(big.NewInt(int64(n))), big.NewInt(int64(d)))
	return g.IsInt64() && g.Int64() == 1
}

// pick returns a pseudorandom valid fraction, whose numerator and denominator have any number of bits.
func pick(source *rand.Rand) api.Frac {
	n := (source.Intn(2*m+1) - m) >> source.Intn(50)
	d := 1 + source.Intn(m)>>source.Intn(50)
	a, _ := written(big.NewRat(int64(n), int64(d)))
	return a
}

// fractions returns all valid fractions of the integers, and pseudorandom ones.
func fractions() []api.Frac {
	var l []api.Frac
	for _, n := range integers() {
		for _, d := range integers() {
			if isValid(n, d) {
				l = append(l, ratio(n, d))
			}
		}
	}
	source := rand.New(rand.NewSource(3))
	for range 50 {
		l = append(l, pick(source))
	}
	return l
}

// few returns valid fractions for tests that combine three of them.
func few() []api.Frac {
	return []api.Frac{
		ratio(0, 1), ratio(1, 1), ratio(-1, 1), ratio(1, 2), ratio(-1, 2), ratio(3, 2), ratio(-2, 3), ratio(5, 6), ratio(-7, 12), ratio(4, 15), ratio(10, 1), ratio(-1000003, 1000033),
		ratio(m, 1), ratio(-m, 1), ratio(m-1, 1), ratio(1, m), ratio(-1, m), ratio(1, m-1), ratio(m, m-1), ratio(m-1, m), ratio(-m, m-1), ratio(1-m, m),
		ratio(1, 32768), ratio(1, 30517578125), ratio(-32768, 30517578125), ratio(31622777, 1), ratio(1, 31622777), ratio(31622777, 31622776), ratio(m/2, 1), ratio(1, m/2), ratio(m/2, 3), ratio(-3, m/2),
		ratio(1<<49, 1), ratio(1, 1<<49), ratio(999999999989, 999999999961), ratio(-999999999961, 999999999989),
	}
}

// invalid returns fractions that are not valid, for each of the reasons.
func invalid() []api.Frac {
	return []api.Frac{
		// A denominator that is 0 or negative.
		ratio(0, 0), ratio(1, 0), ratio(-1, 0), ratio(m, 0), ratio(0, -1), ratio(1, -1), ratio(1, -2), ratio(-3, -2), ratio(m, -1), ratio(1, -m), ratio(1, least), ratio(0, least), ratio(least, 0),
		// A common divisor.
		ratio(2, 4), ratio(-2, 4), ratio(6, 4), ratio(6, 3), ratio(0, 2), ratio(0, m), ratio(m, m), ratio(-m, m), ratio(m, 5), ratio(m, 2), ratio(2, 2), ratio(m-1, 9),
		// Beyond MaxInt.
		ratio(m+1, 1), ratio(-m-1, 1), ratio(m+1, 2), ratio(1, m+1), ratio(-1, m+1), ratio(0, m+1), ratio(m+1, m), ratio(m, m+1), ratio(m+2, m+1), ratio(2*m, 1), ratio(1, 2*m),
		ratio(greatest, 1), ratio(-greatest, 1), ratio(least, 1), ratio(1, greatest), ratio(-1, greatest), ratio(greatest, greatest-1), ratio(least, greatest), ratio(greatest, least), ratio(least, least), ratio(least, -1),
	}
}

// exactly returns the value of a; a fraction that is not valid counts as 0.
func exactly(a api.Frac) *big.Rat {
	if !isValid(a.N, a.D) {
		return new(big.Rat)
	}
	return big.NewRat(int64(a.N), int64(a.D))
}

// written returns the valid fraction with the exact value r, and whether there is one.
func written(r *big.Rat) (api.Frac, bool) {
	limit := big.NewInt(1000000000000000)
	if r.Num().CmpAbs(limit) > 0 || r.Denom().CmpAbs(limit) > 0 {
		return api.Frac{}, false
	}
	return ratio(int(r.Num().Int64()), int(r.Denom().Int64())), true
}

// binary is a function with two operands.
type binary func(a, b api.Frac) (api.Frac, bool)

// result is what a call with two operands must return.
type result struct {
	a, b, want api.Frac
	ok         bool
}

func checkResults(t *testing.T, name string, call binary, l []result) {
	t.Helper()
	for _, r := range l {
		if c, ok := call(r.a, r.b); c != r.want || ok != r.ok {
			t.Errorf("%s(%v, %v) = %v, %v; want %v, %v", name, r.a, r.b, c, ok, r.want, r.ok)
		}
	}
}

// checkAgainst compares call with the exact operation on all pairs of operands.
func checkAgainst(t *testing.T, name string, call binary, exact func(z, a, b *big.Rat) *big.Rat, noZero bool) {
	t.Helper()
	operands := slices.Concat(fractions(), invalid())
	results := 0
	for _, a := range operands {
		for _, b := range operands {
			var want api.Frac
			wantOk := false
			if isValid(a.N, a.D) && isValid(b.N, b.D) && !(noZero && b.N == 0) {
				want, wantOk = written(exact(new(big.Rat), exactly(a), exactly(b)))
			}
			if wantOk {
				results++
			}
			if c, ok := call(a, b); c != want || ok != wantOk {
				t.Errorf("%s(%v, %v) = %v, %v; want %v, %v", name, a, b, c, ok, want, wantOk)
			}
		}
	}
	if results < 10000 {
		t.Errorf("%s: only %d results compared", name, results)
	}
}

// P3.1
func TestValid(t *testing.T) {
	for _, a := range slices.Concat(fractions(), few(), []api.Frac{ratio(0, 1), ratio(1, 1), ratio(-1, 1), ratio(-3, 2), ratio(m, 1), ratio(-m, 1), ratio(1, m), ratio(-1, m), ratio(m, m-1), ratio(-m, m-1), ratio(m-1, m)}) {
		if !frac.Valid(a) {
			t.Errorf("Valid(%v) is false", a)
		}
	}
	for _, a := range invalid() {
		if frac.Valid(a) {
			t.Errorf("Valid(%v) is true", a)
		}
	}
	for _, n := range integers() {
		for _, d := range integers() {
			if ok := frac.Valid(ratio(n, d)); ok != isValid(n, d) {
				t.Errorf("Valid({%d, %d}) = %v", n, d, ok)
			}
		}
	}
}

// P3.1: the zero value, which comes with false, is not a fraction.
func TestZeroValueIsNotValid(t *testing.T) {
	if frac.Valid(api.Frac{}) {
		t.Error("the zero value is valid")
	}
}

// P3.1
func TestOf(t *testing.T) {
	for _, c := range []struct {
		n, d int
		want api.Frac
		ok   bool
	}{
		{6, -4, ratio(-3, 2), true},
		{6, 4, ratio(3, 2), true},
		{-6, 4, ratio(-3, 2), true},
		{-6, -4, ratio(3, 2), true},
		{7, 5, ratio(7, 5), true},
		{12, 3, ratio(4, 1), true},
		{0, -7, ratio(0, 1), true},
		{0, 7, ratio(0, 1), true},
		{0, m, ratio(0, 1), true},
		{0, -m, ratio(0, 1), true},
		{m, 1, ratio(m, 1), true},
		{m, -1, ratio(-m, 1), true},
		{-m, -1, ratio(m, 1), true},
		{1, -m, ratio(-1, m), true},
		{m, m, ratio(1, 1), true},
		{m, -m, ratio(-1, 1), true},
		{m - 1, -m, ratio(1-m, m), true},
		{m, 10, ratio(100000000000000, 1), true},
		{0, 0, api.Frac{}, false},
		{1, 0, api.Frac{}, false},
		{-m, 0, api.Frac{}, false},
		{m + 1, 1, api.Frac{}, false},
		{1, m + 1, api.Frac{}, false},
		{-m - 1, 1, api.Frac{}, false},
		{1, -m - 1, api.Frac{}, false},
		// The values of these are those of valid fractions, but n or d is not in range.
		{m + 1, m + 1, api.Frac{}, false},
		{2 * m, 2, api.Frac{}, false},
		{2, 2 * m, api.Frac{}, false},
		{0, m + 1, api.Frac{}, false},
		{least, least, api.Frac{}, false},
		{least, -1, api.Frac{}, false},
		{least, 1, api.Frac{}, false},
		{1, least, api.Frac{}, false},
		{0, least, api.Frac{}, false},
		{least, 0, api.Frac{}, false},
		{greatest, greatest, api.Frac{}, false},
		{greatest, 1, api.Frac{}, false},
		{1, greatest, api.Frac{}, false},
	} {
		if a, ok := frac.Of(c.n, c.d); a != c.want || ok != c.ok {
			t.Errorf("Of(%d, %d) = %v, %v; want %v, %v", c.n, c.d, a, ok, c.want, c.ok)
		}
	}
	for _, n := range integers() {
		for _, d := range integers() {
			var want api.Frac
			ok := -m <= n && n <= m && -m <= d && d <= m && d != 0
			if ok {
				want, _ = written(big.NewRat(int64(n), int64(d)))
			}
			if a, got := frac.Of(n, d); a != want || got != ok {
				t.Errorf("Of(%d, %d) = %v, %v; want %v, %v", n, d, a, got, want, ok)
			}
		}
	}
}

// P3.2
func TestAdd(t *testing.T) {
	checkResults(t, "Add", frac.Add, []result{
		{ratio(1, 6), ratio(1, 10), ratio(4, 15), true},
		{ratio(1, 2), ratio(1, 3), ratio(5, 6), true},
		{ratio(1, 2), ratio(1, 2), ratio(1, 1), true},
		{ratio(-1, 2), ratio(-1, 3), ratio(-5, 6), true},
		{ratio(0, 1), ratio(-3, 7), ratio(-3, 7), true},
		{ratio(1, m), ratio(-1, m), ratio(0, 1), true},
		{ratio(m, m-1), ratio(-m, m-1), ratio(0, 1), true},
		// A numerator of exactly MaxInt, and one more.
		{ratio(m-1, 1), ratio(1, 1), ratio(m, 1), true},
		{ratio(1-m, 1), ratio(-1, 1), ratio(-m, 1), true},
		{ratio(m, 1), ratio(1, 1), api.Frac{}, false},
		{ratio(-m, 1), ratio(-1, 1), api.Frac{}, false},
		{ratio(m-3, 7), ratio(3, 7), ratio(m, 7), true},
		{ratio(m-3, 7), ratio(4, 7), ratio(142857142857143, 1), true},
		{ratio(m-1, 17), ratio(2, 17), api.Frac{}, false},
		// A denominator of exactly MaxInt, 32768 * 30517578125, and one more, 1001 * 999000999001.
		{ratio(1, 32768), ratio(1, 30517578125), ratio(30517610893, m), true},
		{ratio(1, 1001), ratio(1, 999000999001), api.Frac{}, false},
		{ratio(1, m), ratio(1, m-1), api.Frac{}, false},
		// Numerators in between of about 10^30, of which the divisor of the denominators takes away much.
		{ratio(m-1, m), ratio(1, m), ratio(1, 1), true},
		{ratio(m-1, m), ratio(m-1, m), ratio(999999999999999, 500000000000000), true},
		{ratio(999999999999999, 2), ratio(999999999999999, 2), ratio(999999999999999, 1), true},
		{ratio(m-1, 2), ratio(m+1, 2), api.Frac{}, false},
		// Not valid.
		{ratio(2, 4), ratio(1, 2), api.Frac{}, false},
		{ratio(1, 2), ratio(2, 4), api.Frac{}, false},
		{api.Frac{}, ratio(1, 1), api.Frac{}, false},
		{ratio(1, 1), api.Frac{}, api.Frac{}, false},
		{ratio(m+1, 1), ratio(-1, 1), api.Frac{}, false},
		{ratio(-1, 1), ratio(m+1, 1), api.Frac{}, false},
		{ratio(1, -2), ratio(1, 2), api.Frac{}, false},
		{ratio(least, 1), ratio(least, 1), api.Frac{}, false},
		{ratio(1, least), ratio(1, least), api.Frac{}, false},
	})
	checkAgainst(t, "Add", frac.Add, (*big.Rat).Add, false)
}

// P3.2
func TestSub(t *testing.T) {
	checkResults(t, "Sub", frac.Sub, []result{
		{ratio(1, 2), ratio(1, 3), ratio(1, 6), true},
		{ratio(1, 3), ratio(1, 2), ratio(-1, 6), true},
		{ratio(1, 6), ratio(-1, 10), ratio(4, 15), true},
		{ratio(0, 1), ratio(m, 1), ratio(-m, 1), true},
		{ratio(0, 1), ratio(-m, 1), ratio(m, 1), true},
		{ratio(1, m), ratio(1, m), ratio(0, 1), true},
		{ratio(m-1, 1), ratio(-1, 1), ratio(m, 1), true},
		{ratio(m, 1), ratio(-1, 1), api.Frac{}, false},
		{ratio(-m, 1), ratio(1, 1), api.Frac{}, false},
		{ratio(1, 1001), ratio(1, 999000999001), api.Frac{}, false},
		{ratio(0, 1), ratio(0, 2), api.Frac{}, false},
		{ratio(0, 2), ratio(0, 1), api.Frac{}, false},
		{ratio(1, 1), ratio(m+1, 1), api.Frac{}, false},
		{ratio(0, 1), ratio(least, 1), api.Frac{}, false},
		{ratio(least, 1), ratio(least, 1), api.Frac{}, false},
		{ratio(1, 1), ratio(1, least), api.Frac{}, false},
	})
	checkAgainst(t, "Sub", frac.Sub, (*big.Rat).Sub, false)
}

// P3.2
func TestMul(t *testing.T) {
	checkResults(t, "Mul", frac.Mul, []result{
		{ratio(2, 3), ratio(3, 4), ratio(1, 2), true},
		{ratio(-2, 3), ratio(3, 4), ratio(-1, 2), true},
		{ratio(-2, 3), ratio(-3, 4), ratio(1, 2), true},
		{ratio(0, 1), ratio(-3, 4), ratio(0, 1), true},
		{ratio(-3, m), ratio(0, 1), ratio(0, 1), true},
		{ratio(m, 1), ratio(2, 1), api.Frac{}, false},
		{ratio(m, 1), ratio(-1, 1), ratio(-m, 1), true},
		// Products in between of about 10^30.
		{ratio(m, m-1), ratio(m-1, m), ratio(1, 1), true},
		{ratio(-m, m-1), ratio(m-1, m), ratio(-1, 1), true},
		{ratio(m, 1), ratio(1, m), ratio(1, 1), true},
		// A numerator and a denominator of exactly MaxInt, and one more.
		{ratio(32768, 1), ratio(-30517578125, 1), ratio(-m, 1), true},
		{ratio(1001, 1), ratio(999000999001, 1), api.Frac{}, false},
		{ratio(1001, 1), ratio(-999000999001, 1), api.Frac{}, false},
		{ratio(1, 32768), ratio(1, 30517578125), ratio(1, m), true},
		{ratio(1, 1001), ratio(1, 999000999001), api.Frac{}, false},
		// The exact products are 2^64 and 1/2^64, which wrap around to 0.
		{ratio(1<<32, 1), ratio(1<<32, 1), api.Frac{}, false},
		{ratio(1, 1<<32), ratio(1, 1<<32), api.Frac{}, false},
		{ratio(m, m-1), ratio(m, m-1), api.Frac{}, false},
		// Not valid.
		{ratio(2, 4), ratio(2, 1), api.Frac{}, false},
		{ratio(2, 1), ratio(2, 4), api.Frac{}, false},
		{ratio(0, 1), ratio(1, 0), api.Frac{}, false},
		{ratio(1, 0), ratio(0, 1), api.Frac{}, false},
		{ratio(m+1, 1), ratio(0, 1), api.Frac{}, false},
		{ratio(0, 1), ratio(1, m+1), api.Frac{}, false},
		{ratio(least, 1), ratio(-1, 1), api.Frac{}, false},
		{ratio(-1, 1), ratio(1, least), api.Frac{}, false},
	})
	checkAgainst(t, "Mul", frac.Mul, (*big.Rat).Mul, false)
}

// P3.2
func TestDiv(t *testing.T) {
	checkResults(t, "Div", frac.Div, []result{
		{ratio(1, 2), ratio(-3, 4), ratio(-2, 3), true},
		{ratio(-1, 2), ratio(-3, 4), ratio(2, 3), true},
		{ratio(6, 1), ratio(3, 1), ratio(2, 1), true},
		{ratio(0, 1), ratio(-3, 4), ratio(0, 1), true},
		{ratio(1, 1), ratio(-m, 1), ratio(-1, m), true},
		{ratio(1, 1), ratio(-1, m), ratio(-m, 1), true},
		{ratio(m, m-1), ratio(m, m-1), ratio(1, 1), true},
		{ratio(m, m-1), ratio(-m, m-1), ratio(-1, 1), true},
		{ratio(1, 32768), ratio(30517578125, 1), ratio(1, m), true},
		{ratio(1, 1001), ratio(999000999001, 1), api.Frac{}, false},
		{ratio(1001, 1), ratio(-1, 999000999001), api.Frac{}, false},
		{ratio(m, 1), ratio(1, 2), api.Frac{}, false},
		{ratio(1, m), ratio(2, 1), api.Frac{}, false},
		// Division by zero.
		{ratio(1, 1), ratio(0, 1), api.Frac{}, false},
		{ratio(0, 1), ratio(0, 1), api.Frac{}, false},
		{ratio(-m, m-1), ratio(0, 1), api.Frac{}, false},
		// Not valid.
		{ratio(2, 4), ratio(1, 1), api.Frac{}, false},
		{ratio(1, 1), ratio(2, 4), api.Frac{}, false},
		{ratio(1, 1), ratio(1, 0), api.Frac{}, false},
		{ratio(1, 1), ratio(1, -2), api.Frac{}, false},
		{ratio(1, 0), ratio(1, 1), api.Frac{}, false},
		{ratio(0, 1), ratio(m+1, 1), api.Frac{}, false},
		{ratio(least, 1), ratio(-1, 1), api.Frac{}, false},
		{ratio(1, 1), ratio(least, 1), api.Frac{}, false},
		{ratio(1, 1), ratio(1, least), api.Frac{}, false},
	})
	checkAgainst(t, "Div", frac.Div, (*big.Rat).Quo, true)
}

// P3.2
func TestCmp(t *testing.T) {
	for _, c := range []struct {
		a, b api.Frac
		n    int
	}{
		{ratio(1, 3), ratio(2, 5), -1},
		{ratio(2, 5), ratio(1, 3), 1},
		{ratio(-1, 3), ratio(-2, 5), 1},
		{ratio(2, 5), ratio(2, 5), 0},
		{ratio(-1, m), ratio(0, 1), -1},
		{ratio(1, m), ratio(0, 1), 1},
		// Products of about 10^30 that differ by 1.
		{ratio(m-1, m), ratio(m-2, m-1), 1},
		{ratio(m, m-1), ratio(m-1, m-2), -1},
		{ratio(1-m, m), ratio(2-m, m-1), -1},
		{ratio(m, m-1), ratio(m, m-1), 0},
		{ratio(-m, m-1), ratio(m, m-1), -1},
		{ratio(m, 1), ratio(-m, 1), 1},
		// The products of these are 2^64 and 1, of which the lower 64 bits are 0 and 1.
		{ratio(1<<32, 1), ratio(1, 1<<32), 1},
		// Not valid: they count as 0.
		{api.Frac{}, api.Frac{}, 0},
		{api.Frac{}, ratio(0, 1), 0},
		{ratio(2, 4), ratio(0, 1), 0},
		{ratio(2, 4), ratio(1, 4), -1},
		{ratio(1, 4), ratio(2, 4), 1},
		{ratio(m+1, 1), ratio(1, m), -1},
		{ratio(-1, m), ratio(least, 1), -1},
		{ratio(1, -2), ratio(-1, 2), 1},
		{ratio(least, greatest), ratio(greatest, least), 0},
		{ratio(least, least), ratio(0, 1), 0},
	} {
		if n := frac.Cmp(c.a, c.b); n != c.n {
			t.Errorf("Cmp(%v, %v) = %d; want %d", c.a, c.b, n, c.n)
		}
	}
	operands := slices.Concat(fractions(), few(), invalid())
	for _, a := range operands {
		for _, b := range operands {
			if n, want := frac.Cmp(a, b), exactly(a).Cmp(exactly(b)); n != want {
				t.Errorf("Cmp(%v, %v) = %d; want %d", a, b, n, want)
			}
		}
	}
}

// checkAll compares all operations on a and b with the exact ones, and returns how many results there are.
func checkAll(t *testing.T, a, b api.Frac) int {
	t.Helper()
	x, y := exactly(a), exactly(b)
	results := 0
	check := func(name string, call binary, exact *big.Rat) {
		want, wantOk := written(exact)
		if wantOk {
			results++
		}
		if c, ok := call(a, b); c != want || ok != wantOk {
			t.Errorf("%s(%v, %v) = %v, %v; want %v, %v", name, a, b, c, ok, want, wantOk)
		}
	}
	check("Add", frac.Add, new(big.Rat).Add(x, y))
	check("Sub", frac.Sub, new(big.Rat).Sub(x, y))
	check("Mul", frac.Mul, new(big.Rat).Mul(x, y))
	if b.N != 0 {
		check("Div", frac.Div, new(big.Rat).Quo(x, y))
	}
	if n := frac.Cmp(a, b); n != x.Cmp(y) {
		t.Errorf("Cmp(%v, %v) = %d", a, b, n)
	}
	return results
}

// P3.2
func TestPseudorandomFractions(t *testing.T) {
	source := rand.New(rand.NewSource(4))
	results := 0
	for range 20000 {
		results += checkAll(t, pick(source), pick(source))
	}
	if results < 10000 {
		t.Errorf("only %d results", results)
	}
}

// P3.2: denominators with a great common divisor, so that sums exist although their products in between need 100 bits.
func TestCommonDivisors(t *testing.T) {
	source := rand.New(rand.NewSource(5))
	results := 0
	for range 20000 {
		common := m>>source.Intn(20) - source.Intn(1000)
		share := func() api.Frac {
			n, d := source.Intn(2*m+1)-m, common/(1+source.Intn(4))
			a, _ := written(big.NewRat(int64(n), int64(d)))
			return a
		}
		results += checkAll(t, share(), share())
	}
	if results < 10000 {
		t.Errorf("only %d results", results)
	}
}

// P3.3
func TestFloor(t *testing.T) {
	for _, c := range []struct {
		a api.Frac
		n int
	}{
		{ratio(-3, 2), -2},
		{ratio(3, 2), 1},
		{ratio(1, 2), 0},
		{ratio(-1, 2), -1},
		{ratio(0, 1), 0},
		{ratio(7, 1), 7},
		{ratio(-7, 1), -7},
		{ratio(-8, 3), -3},
		{ratio(-7, 3), -3},
		{ratio(m, 1), m},
		{ratio(-m, 1), -m},
		{ratio(1, m), 0},
		{ratio(-1, m), -1},
		{ratio(m, m-1), 1},
		{ratio(-m, m-1), -2},
		{ratio(m-1, m), 0},
		{ratio(1-m, m), -1},
		{api.Frac{}, 0},
		{ratio(6, 4), 0},
		{ratio(7, 0), 0},
		{ratio(7, -1), 0},
		{ratio(m+1, 1), 0},
		{ratio(-m-1, 2), 0},
		{ratio(-1, m+1), 0},
		{ratio(least, -1), 0},
		{ratio(least, 1), 0},
		{ratio(greatest, 1), 0},
	} {
		if n := frac.Floor(c.a); n != c.n {
			t.Errorf("Floor(%v) = %d; want %d", c.a, n, c.n)
		}
	}
	for _, a := range slices.Concat(fractions(), invalid()) {
		x := exactly(a)
		// Div rounds downward, because the denominator is positive.
		want := new(big.Int).Div(x.Num(), x.Denom())
		if n := frac.Floor(a); int64(n) != want.Int64() {
			t.Errorf("Floor(%v) = %d; want %v", a, n, want)
		}
	}
}

// P3.3
func TestText(t *testing.T) {
	for _, c := range []struct {
		a api.Frac
		s string
	}{
		{ratio(-3, 2), "-3/2"},
		{ratio(3, 2), "3/2"},
		{ratio(5, 1), "5"},
		{ratio(-5, 1), "-5"},
		{ratio(0, 1), "0"},
		{ratio(1, 10), "1/10"},
		{ratio(m, 1), "1000000000000000"},
		{ratio(-m, 1), "-1000000000000000"},
		{ratio(-1, m), "-1/1000000000000000"},
		{ratio(-m, m-1), "-1000000000000000/999999999999999"},
	} {
		if s := frac.Text(c.a); s != c.s {
			t.Errorf("Text(%v) = %q; want %q", c.a, s, c.s)
		}
	}
	for _, a := range fractions() {
		want := strings.TrimSuffix(exactly(a).String(), "/1")
		if s := frac.Text(a); s != want {
			t.Errorf("Text(%v) = %q; want %q", a, s, want)
		}
	}
	for _, a := range invalid() {
		if s := frac.Text(a); s != "" {
			t.Errorf("Text(%v) = %q", a, s)
		}
	}
}

// P3.3
func TestParse(t *testing.T) {
	for _, c := range []struct {
		s string
		a api.Frac
	}{
		{"5", ratio(5, 1)},
		{"-5", ratio(-5, 1)},
		{"0", ratio(0, 1)},
		{"1", ratio(1, 1)},
		{"3/2", ratio(3, 2)},
		{"-3/2", ratio(-3, 2)},
		{"1/10", ratio(1, 10)},
		{"10/9", ratio(10, 9)},
		{"1000000000000000", ratio(m, 1)},
		{"-1000000000000000", ratio(-m, 1)},
		{"1/1000000000000000", ratio(1, m)},
		{"-1000000000000000/999999999999999", ratio(-m, m-1)},
	} {
		if a, ok := frac.Parse(c.s); a != c.a || !ok {
			t.Errorf("Parse(%q) = %v, %v; want %v", c.s, a, ok, c.a)
		}
	}
}

// P3.3
func TestParseRejects(t *testing.T) {
	for _, s := range []string{
		// Not in lowest terms, or a denominator 1 that Text does not write.
		"6/4", "-6/4", "2/2", "3/1", "-3/1", "1/1", "0/1", "0/2", "0/1000000000000000", "1000000000000000/5",
		// A denominator that is 0, negative or missing.
		"1/0", "0/0", "-1/0", "1/-2", "-1/-2", "-3/-1", "1/", "-1/", "/", "/1", "/2", "-/2", "1//2", "1/2/3", "1/2/", "/1/2", "1/2/1", "3/2/5",
		// Other writings of integers.
		"", "-", "+", "-0", "+0", "00", "05", "-05", "+5", "--5", "5-", "1/02", "01/2", "1/+2", "+1/2", "-0/3", "1/-0", "-01/2", "--1/2",
		" 1/2", "1/2 ", "1 /2", "1/ 2", "1 / 2", "- 1/2", "\t5", "5\n", "1/2\n", "5\x00", "1/2\x00", "1\x00/2", "\xff", "1/\xff", "1/2\xff",
		"0.5", "1.5/2", "1e3", "1/1e3", "0x1/2", "1/0x2", "1_0/3", "1/1_0", "1,5", "1:2", "1\\2", "1\u20442", "1\u22152", "\u00bd", "\u0661/2", "\u22121/2", "a", "a/b", "1/b", "null",
		// Beyond MaxInt.
		"1000000000000001", "-1000000000000001", "1/1000000000000001", "1000000000000001/2", "-1000000000000001/1000000000000003", "9999999999999999/2",
		"9223372036854775807", "-9223372036854775808", "1/9223372036854775807", "1/-9223372036854775808", "-9223372036854775808/1", "9223372036854775808/3",
		// 2^64 + 1 and 2^64 + 2, which wrap around to 1 and 2.
		"18446744073709551617", "18446744073709551617/2", "1/18446744073709551618", "-18446744073709551617/2",
		strings.Repeat("9", 1000), "1/" + strings.Repeat("9", 1000), strings.Repeat("9", 1000) + "/7", strings.Repeat("0", 1000) + "1/2", "1/" + strings.Repeat("0", 1000) + "2", strings.Repeat("/", 1000),
	} {
		if a, ok := frac.Parse(s); a != (api.Frac{}) || ok {
			t.Errorf("Parse(%q) = %v, %v", s, a, ok)
		}
	}
}

// P3.3: among all short strings of these characters, exactly the texts of valid fractions are accepted.
func TestParseShortStrings(t *testing.T) {
	texts := map[string]api.Frac{}
	for n := -999; n <= 9999; n++ {
		texts[strconv.Itoa(n)] = ratio(n, 1)
	}
	for n := -99; n <= 999; n++ {
		for d := 2; d <= 999; d++ {
			if isValid(n, d) {
				texts[strconv.Itoa(n)+"/"+strconv.Itoa(d)] = ratio(n, d)
			}
		}
	}
	level := []string{""}
	for range 4 {
		var next []string
		for _, s := range level {
			for _, c := range "-+/0123456789 .x" {
				next = append(next, s+string(c))
			}
		}
		for _, s := range next {
			want, wantOk := texts[s]
			if a, ok := frac.Parse(s); a != want || ok != wantOk {
				t.Errorf("Parse(%q) = %v, %v; want %v, %v", s, a, ok, want, wantOk)
			}
		}
		level = next
	}
}

// P3.4
func TestCommutative(t *testing.T) {
	operands := slices.Concat(fractions(), invalid())
	for _, a := range operands {
		for _, b := range operands {
			c, cOk := frac.Add(a, b)
			d, dOk := frac.Add(b, a)
			if c != d || cOk != dOk {
				t.Errorf("Add of %v and %v: %v, %v and %v, %v", a, b, c, cOk, d, dOk)
			}
			c, cOk = frac.Mul(a, b)
			d, dOk = frac.Mul(b, a)
			if c != d || cOk != dOk {
				t.Errorf("Mul of %v and %v: %v, %v and %v, %v", a, b, c, cOk, d, dOk)
			}
		}
	}
}

// checkAssociative compares both ways to combine three fractions, where the first results exist.
func checkAssociative(t *testing.T, name string, call binary) {
	t.Helper()
	compared := 0
	for _, a := range few() {
		for _, b := range few() {
			for _, c := range few() {
				left, ok1 := call(a, b)
				right, ok2 := call(b, c)
				if !ok1 || !ok2 {
					continue
				}
				m, mOk := call(left, c)
				n, nOk := call(a, right)
				// Both are the same exact number, so they exist together.
				if m != n || mOk != nOk {
					t.Errorf("%s of %v, %v, %v: %v, %v from the left, %v, %v from the right", name, a, b, c, m, mOk, n, nOk)
				}
				if mOk && nOk {
					compared++
				}
			}
		}
	}
	if compared < 5000 {
		t.Errorf("%s: only %d triples compared", name, compared)
	}
}

// P3.4
func TestAssociative(t *testing.T) {
	checkAssociative(t, "Add", frac.Add)
	checkAssociative(t, "Mul", frac.Mul)
}

// P3.4
func TestDistributive(t *testing.T) {
	compared := 0
	for _, a := range few() {
		for _, b := range few() {
			for _, c := range few() {
				sum, ok1 := frac.Add(b, c)
				p, ok2 := frac.Mul(a, b)
				q, ok3 := frac.Mul(a, c)
				if !ok1 || !ok2 || !ok3 {
					continue
				}
				left, leftOk := frac.Mul(a, sum)
				right, rightOk := frac.Add(p, q)
				if left != right || leftOk != rightOk {
					t.Errorf("%v times the sum of %v and %v: %v, %v and %v, %v", a, b, c, left, leftOk, right, rightOk)
				}
				if leftOk && rightOk {
					compared++
				}
			}
		}
	}
	if compared < 5000 {
		t.Errorf("only %d triples compared", compared)
	}
}

// checkUndone checks that back returns a from the result of call and b, wherever that result exists.
func checkUndone(t *testing.T, call, back binary, noZero bool) {
	t.Helper()
	compared := 0
	for _, a := range fractions() {
		for _, b := range fractions() {
			c, ok := call(a, b)
			if !ok || noZero && b.N == 0 {
				continue
			}
			compared++
			if d, ok := back(c, b); d != a || !ok {
				t.Errorf("%v and %v give %v, and back %v, %v", a, b, c, d, ok)
			}
		}
	}
	if compared < 10000 {
		t.Errorf("only %d pairs compared", compared)
	}
}

// P3.4
func TestSubUndoesAdd(t *testing.T) {
	checkUndone(t, frac.Add, frac.Sub, false)
	checkUndone(t, frac.Sub, frac.Add, false)
}

// P3.4
func TestDivUndoesMul(t *testing.T) {
	checkUndone(t, frac.Mul, frac.Div, true)
	checkUndone(t, frac.Div, frac.Mul, true)
}

// P3.4: 0 and 1 are neutral, and a fraction has an opposite and, unless it is 0, an inverse.
func TestNeutral(t *testing.T) {
	zero, one := ratio(0, 1), ratio(1, 1)
	for _, a := range fractions() {
		if c, ok := frac.Add(a, zero); c != a || !ok {
			t.Errorf("%v + 0 = %v, %v", a, c, ok)
		}
		if c, ok := frac.Mul(a, one); c != a || !ok {
			t.Errorf("%v * 1 = %v, %v", a, c, ok)
		}
		opposite, ok := frac.Sub(zero, a)
		if !ok {
			t.Errorf("%v has no opposite", a)
		}
		if c, ok := frac.Add(a, opposite); c != zero || !ok {
			t.Errorf("%v + %v = %v, %v", a, opposite, c, ok)
		}
		inverse, ok := frac.Div(one, a)
		if ok != (a.N != 0) {
			t.Errorf("the inverse of %v: %v, %v", a, inverse, ok)
		}
		if c, cOk := frac.Mul(a, inverse); ok && (c != one || !cOk) {
			t.Errorf("%v * %v = %v, %v", a, inverse, c, cOk)
		}
	}
}

// P3.5: valid fractions that differ are not equal, and the order is the sign's opposite when turned around and transitive.
func TestCmpIsTotalOrder(t *testing.T) {
	for _, a := range fractions() {
		for _, b := range fractions() {
			n := frac.Cmp(a, b)
			if (n == 0) != (a == b) || n != -frac.Cmp(b, a) || n < -1 || n > 1 {
				t.Errorf("Cmp(%v, %v) = %d, turned around %d", a, b, n, frac.Cmp(b, a))
			}
		}
	}
	l := slices.Concat(few(), invalid())
	for _, a := range l {
		for _, b := range l {
			for _, c := range l {
				if frac.Cmp(a, b) <= 0 && frac.Cmp(b, c) <= 0 && frac.Cmp(a, c) > 0 {
					t.Errorf("%v, %v and %v are not in order", a, b, c)
				}
			}
		}
	}
}

// checkPreserved checks that call with the same fraction on both sides preserves the order, times the sign that belongs to this fraction.
func checkPreserved(t *testing.T, name string, call binary, sign func(c api.Frac) int) {
	t.Helper()
	compared := 0
	for _, a := range few() {
		for _, b := range few() {
			for _, c := range few() {
				x, xOk := call(a, c)
				y, yOk := call(b, c)
				if !xOk || !yOk {
					continue
				}
				compared++
				if n, want := frac.Cmp(x, y), sign(c)*frac.Cmp(a, b); n != want {
					t.Errorf("%s of %v to %v and %v: Cmp(%v, %v) = %d; want %d", name, c, a, b, x, y, n, want)
				}
			}
		}
	}
	if compared < 5000 {
		t.Errorf("%s: only %d triples compared", name, compared)
	}
}

// P3.5: sums and positive factors preserve the order. A negative factor turns it around, and the factor 0 makes both sides equal.
func TestOrderIsPreserved(t *testing.T) {
	checkPreserved(t, "Add", frac.Add, func(c api.Frac) int { return 1 })
	checkPreserved(t, "Mul", frac.Mul, func(c api.Frac) int { return exactly(c).Sign() })
}

// P3.6
func TestParseOfText(t *testing.T) {
	for _, a := range slices.Concat(fractions(), few()) {
		if b, ok := frac.Parse(frac.Text(a)); b != a || !ok {
			t.Errorf("Parse(Text(%v)) = %v, %v", a, b, ok)
		}
	}
	for _, a := range invalid() {
		if b, ok := frac.Parse(frac.Text(a)); b != (api.Frac{}) || ok {
			t.Errorf("Parse(Text(%v)) = %v, %v", a, b, ok)
		}
	}
}

// P3.6: what Parse accepts is the text of its result.
func TestTextOfParsed(t *testing.T) {
	accepted := 0
	for _, n := range integers() {
		for _, d := range integers() {
			for _, s := range []string{strconv.Itoa(n), strconv.Itoa(n) + "/" + strconv.Itoa(d)} {
				a, ok := frac.Parse(s)
				if !ok {
					continue
				}
				accepted++
				if frac.Text(a) != s || !frac.Valid(a) {
					t.Errorf("Text(Parse(%q)) = %q", s, frac.Text(a))
				}
			}
		}
	}
	if accepted < 500 {
		t.Errorf("only %d strings accepted", accepted)
	}
}

// P3.2: the results of all operations are valid fractions or the zero value.
func TestResultsAreValid(t *testing.T) {
	operands := slices.Concat(few(), invalid())
	for _, a := range operands {
		for _, b := range operands {
			for i, call := range []binary{frac.Add, frac.Sub, frac.Mul, frac.Div} {
				if c, ok := call(a, b); frac.Valid(c) != ok || !ok && c != (api.Frac{}) {
					t.Errorf("operation %d of %v and %v: %v, %v", i, a, b, c, ok)
				}
			}
		}
	}
}
