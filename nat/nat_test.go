package nat_test

import (
	"graphdb/api"
	"graphdb/nat"
	"math"
	"math/big"
	"math/rand"
	"slices"
	"strconv"
	"strings"
	"testing"
)

// ends returns the least and the greatest number of exactly n limbs.
func ends(n int) (least, greatest api.Nat) {
	least, greatest = make(api.Nat, n), make(api.Nat, n)
	least[n-1] = 1
	for i := range greatest {
		greatest[i] = api.Base - 1
	}
	return least, greatest
}

// numbers returns valid numbers at and beside the ends of limbs, of int and of MaxLimbs limbs, and ordinary ones.
func numbers() []api.Nat {
	l := []api.Nat{
		nil, {1}, {2}, {3}, {7}, {10}, {12345}, {31622}, {31623}, {500000000}, {999999998}, {999999999},
		{0, 1}, {1, 1}, {5, 1}, {999999999, 1}, {0, 500000000}, {1, 999999999}, {0, 0, 1}, {0, 0, 0, 7}, {0, 5, 0, 5}, {123456789, 0, 1, 0, 2},
		// The greatest int, and its neighbors.
		{854775806, 223372036, 9}, {854775807, 223372036, 9}, {854775808, 223372036, 9}, {854775807, 223372037, 9}, {854775807, 223372036, 10}, {0, 0, 10},
		// 2^64 and 2^64 + 5, which wrap around to 0 and 5.
		{709551616, 446744073, 18}, {709551621, 446744073, 18},
	}
	for _, n := range []int{2, 3, 31, 32, 33, 63, 64} {
		least, greatest := ends(n)
		near := slices.Clone(greatest)
		near[0]--
		l = append(l, least, greatest, near)
	}
	source := rand.New(rand.NewSource(1))
	for _, n := range []int{1, 2, 4, 9, 21, 40, 55, 64} {
		a := make(api.Nat, n)
		for i := range a {
			a[i] = source.Intn(api.Base)
		}
		a[n-1] = 1 + source.Intn(api.Base-1)
		l = append(l, a)
	}
	return l
}

// invalid returns numbers that are not valid, for each of the reasons.
func invalid() []api.Nat {
	tooLong, greatest := ends(api.MaxLimbs + 1)
	return []api.Nat{
		{0}, {0, 0}, {1, 0}, {5, 1, 0}, make(api.Nat, 64), make(api.Nat, 65), make(api.Nat, 1000),
		{-1}, {-1, 1}, {1, -1}, {5, -1, 5}, {math.MinInt}, {1, math.MinInt},
		{1000000000}, {1000000001}, {1000000000, 1}, {1, 1000000000}, {1, 1000000000, 1}, {math.MaxInt}, {math.MaxInt, 1},
		tooLong, greatest,
	}
}

// exactly returns the value of a by other arithmetic; a number that is not valid counts as 0.
func exactly(a api.Nat) *big.Int {
	z := new(big.Int)
	if !nat.Valid(a) {
		return z
	}
	for i := len(a) - 1; i >= 0; i-- {
		z.Mul(z, big.NewInt(api.Base))
		z.Add(z, big.NewInt(int64(a[i])))
	}
	return z
}

// limbs returns the limbs of z, or only the first of them if there are more than MaxLimbs: the result is then still too long.
func limbs(z *big.Int) api.Nat {
	var a api.Nat
	rest, limb := new(big.Int).Set(z), new(big.Int)
	for rest.Sign() > 0 && len(a) <= api.MaxLimbs {
		rest.QuoRem(rest, big.NewInt(api.Base), limb)
		a = append(a, int(limb.Int64()))
	}
	return a
}

// check compares a result with the exact one, which a call returns only if it has at most MaxLimbs limbs.
func check(t *testing.T, got api.Nat, ok bool, exact *big.Int, call string, operands ...any) {
	t.Helper()
	want := limbs(exact)
	wantOk := len(want) <= api.MaxLimbs
	if !wantOk {
		want = nil
	}
	if !slices.Equal(got, want) || ok != wantOk {
		t.Errorf("%s of %v = %v, %v; want %v, %v", call, operands, got, ok, want, wantOk)
	}
}

// P2.1
func TestValid(t *testing.T) {
	for _, a := range numbers() {
		if !nat.Valid(a) {
			t.Errorf("Valid(%v) is false", a)
		}
	}
	if !nat.Valid(api.Nat{}) {
		t.Error("Valid of no limbs is false")
	}
	for _, a := range invalid() {
		if nat.Valid(a) {
			t.Errorf("Valid(%v) is true", a)
		}
	}
}

// P2.1
func TestOf(t *testing.T) {
	for _, c := range []struct {
		n    int
		want api.Nat
	}{
		{0, nil},
		{1, api.Nat{1}},
		{999999999, api.Nat{999999999}},
		{1000000000, api.Nat{0, 1}},
		{1000000005, api.Nat{5, 1}},
		{999999999999999999, api.Nat{999999999, 999999999}},
		{1000000000000000000, api.Nat{0, 0, 1}},
		{math.MaxInt, api.Nat{854775807, 223372036, 9}},
		{-1, nil},
		{-1000000000, nil},
		{math.MinInt, nil},
	} {
		if a := nat.Of(c.n); !slices.Equal(a, c.want) {
			t.Errorf("Of(%d) = %v; want %v", c.n, a, c.want)
		}
	}
}

// P2.1
func TestSmall(t *testing.T) {
	for _, a := range slices.Concat(numbers(), invalid()) {
		z := exactly(a)
		want, wantOk := 0, z.IsInt64()
		if wantOk {
			want = int(z.Int64())
		}
		if n, ok := nat.Small(a); n != want || ok != wantOk {
			t.Errorf("Small(%v) = %d, %v; want %d, %v", a, n, ok, want, wantOk)
		}
	}
	if n, ok := nat.Small(api.Nat{854775807, 223372036, 9}); n != math.MaxInt || !ok {
		t.Errorf("Small of the greatest int = %d, %v", n, ok)
	}
	if n, ok := nat.Small(api.Nat{854775808, 223372036, 9}); n != 0 || ok {
		t.Errorf("Small of one more than the greatest int = %d, %v", n, ok)
	}
}

// P2.1
func TestAdd(t *testing.T) {
	operands := slices.Concat(numbers(), invalid())
	for _, a := range operands {
		for _, b := range operands {
			sum, ok := nat.Add(a, b)
			check(t, sum, ok, new(big.Int).Add(exactly(a), exactly(b)), "Add", a, b)
		}
	}
}

// P2.1: the greatest number has 64 limbs, and one more has 65.
func TestAddEnds(t *testing.T) {
	_, greatest := ends(api.MaxLimbs)
	less := nat.Sub(greatest, nat.Of(1))
	if sum, ok := nat.Add(less, nat.Of(1)); !ok || !slices.Equal(sum, greatest) {
		t.Error(sum, ok)
	}
	if sum, ok := nat.Add(nat.Of(1), greatest); ok || len(sum) > 0 {
		t.Error(sum, ok)
	}
}

// P2.1
func TestSub(t *testing.T) {
	operands := slices.Concat(numbers(), invalid())
	for _, a := range operands {
		for _, b := range operands {
			want := new(big.Int).Sub(exactly(a), exactly(b))
			if want.Sign() < 0 {
				want.SetInt64(0)
			}
			check(t, nat.Sub(a, b), true, want, "Sub", a, b)
		}
	}
}

// P2.1
func TestMul(t *testing.T) {
	operands := slices.Concat(numbers(), invalid())
	for _, a := range operands {
		for _, b := range operands {
			product, ok := nat.Mul(a, b)
			check(t, product, ok, new(big.Int).Mul(exactly(a), exactly(b)), "Mul", a, b)
		}
	}
}

// P2.1: products of factors with i and j limbs have i+j-1 or i+j limbs, here at and beyond MaxLimbs.
func TestMulEnds(t *testing.T) {
	for _, i := range []int{1, 2, 31, 32, 33, 63, 64} {
		for _, total := range []int{api.MaxLimbs, api.MaxLimbs + 1, api.MaxLimbs + 2} {
			j := total - i
			if j < 1 || j > api.MaxLimbs {
				continue
			}
			least1, greatest1 := ends(i)
			least2, greatest2 := ends(j)
			if p, ok := nat.Mul(least1, least2); ok != (total-1 <= api.MaxLimbs) || ok && len(p) != total-1 {
				t.Errorf("least numbers of %d and %d limbs: %v, %v", i, j, p, ok)
			}
			if p, ok := nat.Mul(greatest1, greatest2); ok != (total <= api.MaxLimbs) || ok && len(p) != total {
				t.Errorf("greatest numbers of %d and %d limbs: %v, %v", i, j, p, ok)
			}
		}
	}
}

// P2.1
func TestPow(t *testing.T) {
	for _, a := range slices.Concat(numbers(), invalid()) {
		exact := big.NewInt(1)
		for k := range 70 {
			power, ok := nat.Pow(a, k)
			check(t, power, ok, exact, "Pow", a, k)
			exact.Mul(exact, exactly(a))
		}
	}
}

// P2.1: the last exponent before the power has more than MaxLimbs limbs, the next ones, and exponents far beyond.
func TestPowEnds(t *testing.T) {
	for _, n := range []int{2, 3, 5, 7, 9, 10, 11, 99, 100, 31622, 65536, 999999999, 1000000000, 1000000001, math.MaxInt} {
		base, exact, last := big.NewInt(int64(n)), big.NewInt(1), 0
		for len(limbs(exact)) <= api.MaxLimbs {
			exact.Mul(exact, base)
			last++
		}
		last--
		for k := max(0, last-3); k <= last+3; k++ {
			power, ok := nat.Pow(nat.Of(n), k)
			check(t, power, ok, new(big.Int).Exp(base, big.NewInt(int64(k)), nil), "Pow", n, k)
		}
		for _, k := range []int{2 * last, 2*last + 1, 2*last + 2, 4 * last, 5000, 1 << 20, 1 << 40, 1 << 62, math.MaxInt - 1, math.MaxInt} {
			if power, ok := nat.Pow(nat.Of(n), k); k > last && (ok || len(power) > 0) {
				t.Errorf("Pow(%d, %d) = %v, %v", n, k, power, ok)
			}
		}
	}
	if power, ok := nat.Pow(nat.Of(10), 575); !ok || len(power) != api.MaxLimbs {
		t.Error(power, ok)
	}
	if power, ok := nat.Pow(nat.Of(10), 576); ok || len(power) > 0 {
		t.Error(power, ok)
	}
}

// P2.1: powers of 0 and 1 are never too long, and a number that is not valid counts as 0.
func TestPowOfZeroAndOne(t *testing.T) {
	for _, k := range []int{1, 2, 3, 575, 576, 5000, 1 << 40, math.MaxInt - 1, math.MaxInt} {
		for _, a := range append(invalid(), nil, api.Nat{}) {
			if power, ok := nat.Pow(a, k); !ok || len(power) > 0 {
				t.Errorf("Pow(%v, %d) = %v, %v", a, k, power, ok)
			}
		}
		if power, ok := nat.Pow(nat.Of(1), k); !ok || !slices.Equal(power, api.Nat{1}) {
			t.Errorf("Pow(1, %d) = %v, %v", k, power, ok)
		}
	}
	for _, a := range slices.Concat(numbers(), invalid()) {
		if power, ok := nat.Pow(a, 0); !ok || !slices.Equal(power, api.Nat{1}) {
			t.Errorf("Pow(%v, 0) = %v, %v", a, power, ok)
		}
	}
}

// P2.1
func TestPowOfNegativeExponent(t *testing.T) {
	for _, a := range slices.Concat(numbers(), invalid()) {
		for _, k := range []int{-1, -2, -1000000000, math.MinInt + 1, math.MinInt} {
			if power, ok := nat.Pow(a, k); ok || len(power) > 0 {
				t.Errorf("Pow(%v, %d) = %v, %v", a, k, power, ok)
			}
		}
	}
}

// P2.1
func TestCmp(t *testing.T) {
	operands := slices.Concat(numbers(), invalid())
	for _, a := range operands {
		for _, b := range operands {
			if n, want := nat.Cmp(a, b), exactly(a).Cmp(exactly(b)); n != want {
				t.Errorf("Cmp(%v, %v) = %d; want %d", a, b, n, want)
			}
		}
	}
}

// P2.1
func TestText(t *testing.T) {
	for _, c := range []struct {
		a    api.Nat
		want string
	}{
		{nil, "0"},
		{api.Nat{}, "0"},
		{api.Nat{5}, "5"},
		{api.Nat{5, 1}, "1000000005"},
		{api.Nat{0, 0, 120}, "120000000000000000000"},
		{api.Nat{100000000, 10, 9}, "9000000010100000000"},
		{api.Nat{0, -1}, "0"},
	} {
		if s := nat.Text(c.a); s != c.want {
			t.Errorf("Text(%v) = %q; want %q", c.a, s, c.want)
		}
	}
	for _, a := range slices.Concat(numbers(), invalid()) {
		if s, want := nat.Text(a), exactly(a).String(); s != want {
			t.Errorf("Text(%v) = %q; want %q", a, s, want)
		}
	}
}

// P2.1
func TestParse(t *testing.T) {
	for _, c := range []struct {
		s    string
		want api.Nat
	}{
		{"0", nil},
		{"1", api.Nat{1}},
		{"10", api.Nat{10}},
		{"999999999", api.Nat{999999999}},
		{"1000000000", api.Nat{0, 1}},
		{"1000000005", api.Nat{5, 1}},
		{"100000000000000000", api.Nat{0, 100000000}},
		{"9223372036854775807", api.Nat{854775807, 223372036, 9}},
		{"18446744073709551621", api.Nat{709551621, 446744073, 18}},
	} {
		if a, ok := nat.Parse(c.s); !ok || !slices.Equal(a, c.want) {
			t.Errorf("Parse(%q) = %v, %v; want %v", c.s, a, ok, c.want)
		}
	}
}

// P2.1: at each number of digits up to 576, and beyond.
func TestParseLengths(t *testing.T) {
	for n := 1; n <= 600; n++ {
		for _, s := range []string{strings.Repeat("9", n), "1" + strings.Repeat("0", n-1)} {
			exact, _ := new(big.Int).SetString(s, 10)
			a, ok := nat.Parse(s)
			check(t, a, ok, exact, "Parse", s)
			if ok != (n <= 576) {
				t.Errorf("Parse of %d digits: %v", n, ok)
			}
		}
	}
}

// P2.1
func TestParseRejects(t *testing.T) {
	l := []string{
		"", "00", "01", "007", "0000000000", "01000000000", "-", "+", "-0", "+0", "-1", "+1", "--1", "1-", "1.0", "1.", ".1", "1e3", "0x1", "0b1", "1_000", "1,000",
		" 1", "1 ", "1 000", "\t1", "1\n", "1\x00", "\x001", "\xff", "1\xff", "a", "12a", "a12", "/", ":", "1/", "1:", "nil",
		"\u0661", "1\u0661", "\uff11", "\u00b2",
		"1-00000000", "1-000000000", "-1000000000", "+1000000000", "1+000000000", "1000000000-1", "1000000000-00000001", "1 000000000", "1000000000 ", "000000000", "0000000001", "0999999999",
		strings.Repeat("0", 576), "0" + strings.Repeat("9", 575), "0" + strings.Repeat("9", 576), strings.Repeat("0", 577), strings.Repeat("9", 577), "1" + strings.Repeat("0", 576), strings.Repeat("9", 5000),
	}
	// A byte that is not a digit, at each place of a long string.
	for i := range 576 {
		for _, c := range []string{"/", ":", "-", " "} {
			l = append(l, strings.Repeat("1", i)+c+strings.Repeat("1", 575-i))
		}
	}
	for _, s := range l {
		if a, ok := nat.Parse(s); ok || len(a) > 0 {
			t.Errorf("Parse(%q) = %v, %v", s, a, ok)
		}
	}
}

// P2.1: each byte beside each digit.
func TestParseBytes(t *testing.T) {
	for c := range 256 {
		for _, s := range []string{string([]byte{byte(c)}), string([]byte{'1', byte(c)}), string([]byte{'1', byte(c), '1'})} {
			exact, err := strconv.Atoi(s)
			want := err == nil && strconv.Itoa(exact) == s && exact >= 0
			if a, ok := nat.Parse(s); ok != want || ok && !slices.Equal(a, nat.Of(exact)) {
				t.Errorf("Parse(%q) = %v, %v", s, a, ok)
			}
		}
	}
}

// P2.1: arguments are left as they are, and changing a result changes no argument.
func TestArgumentsStay(t *testing.T) {
	for _, a := range slices.Concat(numbers(), invalid()) {
		for _, b := range []api.Nat{nil, {1}, {999999999, 1}, {-1}, slices.Clone(a)} {
			keepA, keepB := slices.Clone(a), slices.Clone(b)
			var results []api.Nat
			for _, call := range []func(a, b api.Nat) (api.Nat, bool){nat.Add, nat.Mul} {
				n, _ := call(a, b)
				m, _ := call(b, a)
				results = append(results, n, m)
			}
			power, _ := nat.Pow(a, 1)
			results = append(results, nat.Sub(a, b), nat.Sub(b, a), power)
			for _, r := range results {
				for i := range r {
					r[i] = -7
				}
			}
			if !slices.Equal(a, keepA) || !slices.Equal(b, keepB) {
				t.Fatalf("the arguments %v and %v became %v and %v", keepA, keepB, a, b)
			}
		}
	}
}

// P2.2
func TestCommutative(t *testing.T) {
	for _, a := range numbers() {
		for _, b := range numbers() {
			m, mOk := nat.Add(a, b)
			n, nOk := nat.Add(b, a)
			if !slices.Equal(m, n) || mOk != nOk {
				t.Errorf("Add of %v and %v: %v, %v and %v, %v", a, b, m, mOk, n, nOk)
			}
			m, mOk = nat.Mul(a, b)
			n, nOk = nat.Mul(b, a)
			if !slices.Equal(m, n) || mOk != nOk {
				t.Errorf("Mul of %v and %v: %v, %v and %v, %v", a, b, m, mOk, n, nOk)
			}
		}
	}
}

// checkAssociative compares both ways to combine three numbers, where all results are defined.
func checkAssociative(t *testing.T, name string, call func(a, b api.Nat) (api.Nat, bool)) {
	t.Helper()
	compared := 0
	for _, a := range numbers() {
		for _, b := range numbers() {
			for _, c := range numbers() {
				left, ok1 := call(a, b)
				left, ok2 := call(left, c)
				right, ok3 := call(b, c)
				right, ok4 := call(a, right)
				if !ok1 || !ok2 || !ok3 || !ok4 {
					continue
				}
				compared++
				if !slices.Equal(left, right) {
					t.Errorf("%s of %v, %v and %v: %v and %v", name, a, b, c, left, right)
				}
			}
		}
	}
	if compared < 10000 {
		t.Errorf("%s: only %d triples compared", name, compared)
	}
}

// P2.2
func TestAssociative(t *testing.T) {
	checkAssociative(t, "Add", nat.Add)
	checkAssociative(t, "Mul", nat.Mul)
}

// P2.2
func TestDistributive(t *testing.T) {
	compared := 0
	for _, a := range numbers() {
		for _, b := range numbers() {
			for _, c := range numbers() {
				sum, ok1 := nat.Add(b, c)
				left, ok2 := nat.Mul(a, sum)
				p, ok3 := nat.Mul(a, b)
				q, ok4 := nat.Mul(a, c)
				right, ok5 := nat.Add(p, q)
				if !ok1 || !ok2 || !ok3 || !ok4 || !ok5 {
					continue
				}
				compared++
				if !slices.Equal(left, right) {
					t.Errorf("%v times the sum of %v and %v: %v and %v", a, b, c, left, right)
				}
			}
		}
	}
	if compared < 10000 {
		t.Errorf("only %d triples compared", compared)
	}
}

// P2.2
func TestSubUndoesAdd(t *testing.T) {
	compared := 0
	for _, a := range numbers() {
		for _, b := range numbers() {
			if sum, ok := nat.Add(a, b); ok {
				compared++
				if d := nat.Sub(sum, b); !slices.Equal(d, a) {
					t.Errorf("Sub(%v, %v) = %v; want %v", sum, b, d, a)
				}
			}
		}
	}
	if compared < 1000 {
		t.Errorf("only %d pairs compared", compared)
	}
}

// P2.2
func TestPowStep(t *testing.T) {
	for _, a := range slices.Concat(numbers(), invalid()) {
		for _, k := range []int{0, 1, 2, 3, 4, 5, 6, 7, 8, 15, 16, 31, 32, 62, 63, 64, 100, 255, 256, 500, 574, 575, 576, 1000, 1911, 1912, 1913, 1914} {
			power, ok1 := nat.Pow(a, k)
			next, ok2 := nat.Pow(a, k+1)
			if ok2 && !ok1 {
				t.Errorf("Pow(%v, %d) has a result, but the power before it has none", a, k+1)
			}
			if !ok1 {
				continue
			}
			if product, ok := nat.Mul(power, a); ok != ok2 || !slices.Equal(product, next) {
				t.Errorf("Pow(%v, %d) = %v, %v; want %v, %v", a, k+1, next, ok2, product, ok)
			}
		}
	}
}

// P2.2: valid numbers that differ are not equal, and the order is the sign's opposite when turned around and transitive.
func TestCmpIsTotalOrder(t *testing.T) {
	l := numbers()
	for _, a := range l {
		for _, b := range l {
			n := nat.Cmp(a, b)
			if (n == 0) != slices.Equal(a, b) || n != -nat.Cmp(b, a) {
				t.Errorf("Cmp(%v, %v) = %d, turned around %d", a, b, n, nat.Cmp(b, a))
			}
			for _, c := range l {
				if n <= 0 && nat.Cmp(b, c) <= 0 && nat.Cmp(a, c) > 0 {
					t.Errorf("%v, %v and %v are not in order", a, b, c)
				}
			}
		}
	}
}

// P2.2
func TestCmpAgreesWithSub(t *testing.T) {
	operands := slices.Concat(numbers(), invalid())
	for _, a := range operands {
		for _, b := range operands {
			if n, d := nat.Cmp(a, b), nat.Sub(b, a); (n == -1) != (len(d) > 0) {
				t.Errorf("Cmp(%v, %v) = %d, but Sub(%v, %v) = %v", a, b, n, b, a, d)
			}
		}
	}
}

// P2.3
func TestParseOfText(t *testing.T) {
	for _, a := range numbers() {
		if b, ok := nat.Parse(nat.Text(a)); !ok || !slices.Equal(b, a) {
			t.Errorf("Parse(Text(%v)) = %v, %v", a, b, ok)
		}
	}
	for n := 1; n <= api.MaxLimbs; n++ {
		for _, limb := range []int{0, 1, 9, 10, 99999999, 100000000, 999999999} {
			a, _ := ends(n)
			for i := range n - 1 {
				a[i] = limb
			}
			if b, ok := nat.Parse(nat.Text(a)); !ok || !slices.Equal(b, a) {
				t.Errorf("Parse(Text(%v)) = %v, %v", a, b, ok)
			}
		}
	}
}

// P2.3
func TestTextOfParsed(t *testing.T) {
	source := rand.New(rand.NewSource(2))
	for n := 1; n <= 580; n++ {
		for range 5 {
			digits := make([]byte, n)
			for i := range digits {
				// Many zeros, so that limbs begin with them.
				digits[i] = "0000000123456789"[source.Intn(16)]
			}
			s := string(digits)
			a, ok := nat.Parse(s)
			if want := n <= 576 && (s == "0" || s[0] != '0'); ok != want {
				t.Errorf("Parse(%q): %v; want %v", s, ok, want)
			}
			if ok && nat.Text(a) != s {
				t.Errorf("Text(Parse(%q)) = %q", s, nat.Text(a))
			}
		}
	}
}
