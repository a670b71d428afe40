package schema_test

import (
	"cmp"
	"graphdb/api"
	"graphdb/schema"
	"slices"
	"testing"
)

// ordered returns what Order is defined to return.
func ordered(a, b api.Rule) int {
	numbers := func(x, y int) int {
		if x < y {
			return -1
		}
		if x > y {
			return 1
		}
		return 0
	}
	bytes := func(x, y string) int { return slices.Compare([]byte(x), []byte(y)) }
	for _, n := range []int{numbers(a.Kind, b.Kind), bytes(a.Name, b.Name), bytes(a.Key, b.Key), numbers(a.N, b.N), bytes(a.From, b.From), bytes(a.To, b.To)} {
		if n != 0 {
			return n
		}
	}
	return 0
}

// orderIs fails if Order of a and b is not want, or that of b and a not its opposite.
func orderIs(t *testing.T, a, b api.Rule, want int) {
	t.Helper()
	if got := schema.Order(a, b); got != want {
		t.Errorf("Order(%+v, %+v) = %d, want %d", a, b, got, want)
	}
	if got := schema.Order(b, a); got != -want {
		t.Errorf("Order(%+v, %+v) = %d, want %d", b, a, got, -want)
	}
}

// P9.4: ordinary rules, of different kinds and of the same kind.
func TestOrderOrdinary(t *testing.T) {
	for a, x := range ordinary() {
		for b, y := range ordinary() {
			orderIs(t, x, y, cmp.Compare(a, b))
		}
	}
	l := []api.Rule{unique("A", "k"), unique("A", "kk"), unique("A", "m"), unique("AA", "a"), unique("B", "a"), unique("a", "a"), exists("A", "k"), kind("A", "k", api.VBool), kind("A", "k", api.VInt), kind("A", "k", api.VStr), kind("A", "l", api.VBool), kind("B", "a", api.VBool), edgeExists("A", "k"), edgeKind("A", "k", api.VInt), ends("T", "", ""), ends("T", "", "A"), ends("T", "", "B"), ends("T", "A", ""), ends("T", "A", "B"), ends("T", "B", "A"), ends("U", "", ""), maxOut("A", 9), maxOut("A", 10), maxOut("A", 4000), maxOut("B", 0)}
	for i, x := range l {
		for j, y := range l {
			orderIs(t, x, y, cmp.Compare(i, j))
		}
	}
}

// P9.4: rules, valid or not, that differ in one field only, whatever the others are.
func TestOrderByOneField(t *testing.T) {
	numbers := []int{least, least + 1, -(1 << 32), -8, -1, 0, 1, 2, 7, 8, 9, 10, 4000, 1 << 32, greatest - 1, greatest}
	// In increasing order, byte by byte: as characters, the last ones are none.
	strs := []string{"", "\x00", "\x00\x00", " ", "10", "9", "A", "AA", "AB", "A\xff", "B", "Z", "_", "a", "aa", "b", "z", "é", "\xc3\xaa", "日", "\U0001f600", "\xff", "\xff\xff"}
	all := ordinary()
	for _, base := range append(all[:], api.Rule{Kind: least, N: least}, api.Rule{Kind: greatest, N: greatest, Name: "\xff", Key: "\xff", From: "\xff", To: "\xff"}) {
		for i, x := range numbers {
			for j, y := range numbers {
				a, b := base, base
				a.Kind, b.Kind = x, y
				orderIs(t, a, b, cmp.Compare(i, j))
				a, b = base, base
				a.N, b.N = x, y
				orderIs(t, a, b, cmp.Compare(i, j))
			}
		}
		for i, x := range strs {
			for j, y := range strs {
				for field := range 4 {
					a, b := base, base
					*stringOf(&a, field), *stringOf(&b, field) = x, y
					orderIs(t, a, b, cmp.Compare(i, j))
				}
			}
		}
	}
}

// stringOf returns one of the four strings of r.
func stringOf(r *api.Rule, field int) *string {
	return []*string{&r.Name, &r.Key, &r.From, &r.To}[field]
}

// corners returns the rules that have one of two values in each field.
func corners() []api.Rule {
	var all []api.Rule
	pair := func(mask, bit int, low, high string) string {
		if mask>>bit&1 == 0 {
			return low
		}
		return high
	}
	for mask := range 64 {
		all = append(all, api.Rule{Kind: 5 + mask>>5&1, Name: pair(mask, 4, "A", "AB"), Key: pair(mask, 3, "", "k"), N: -(mask >> 2 & 1), From: pair(mask, 1, "Z", "a"), To: pair(mask, 0, "x\x00", "x_")})
	}
	return all
}

// P9.4: the sequence of the fields: the first one in which two rules differ decides.
func TestOrderOfFields(t *testing.T) {
	all := corners()
	for _, x := range all {
		for _, y := range all {
			orderIs(t, x, y, ordered(x, y))
			if (schema.Order(x, y) == 0) != (x == y) {
				t.Errorf("Order(%+v, %+v) = %d", x, y, schema.Order(x, y))
			}
		}
	}
	base := api.Rule{Kind: 3, N: 3, Name: "n", Key: "n", From: "n", To: "n"}
	// Each of these is greater than the base by one field, and less than it by all fields behind that.
	for _, r := range []api.Rule{
		{Kind: 4, N: -9, Name: "a", Key: "a", From: "a", To: "a"},
		{Kind: 3, N: -9, Name: "o", Key: "a", From: "a", To: "a"},
		{Kind: 3, N: -9, Name: "n", Key: "o", From: "a", To: "a"},
		{Kind: 3, N: 4, Name: "n", Key: "n", From: "a", To: "a"},
		{Kind: 3, N: 3, Name: "n", Key: "n", From: "o", To: "a"},
		{Kind: 3, N: 3, Name: "n", Key: "n", From: "n", To: "o"},
	} {
		orderIs(t, r, base, 1)
	}
	orderIs(t, base, base, 0)
}

// P9.4: a total order: of any three rules, and of any rules sorted by it.
func TestOrderIsTotal(t *testing.T) {
	all := corners()
	for _, x := range all {
		for _, y := range all {
			if schema.Order(x, y) > 0 {
				continue
			}
			for _, z := range all {
				if schema.Order(y, z) <= 0 && schema.Order(x, z) > 0 {
					t.Fatalf("Order puts %+v before %+v, and that before %+v, but not the first before the last", x, y, z)
				}
			}
		}
	}
	many := anyRules()
	sorted := slices.Clone(many)
	slices.SortFunc(sorted, schema.Order)
	slices.SortFunc(many, ordered)
	if !slices.Equal(sorted, many) {
		t.Error("Order sorts rules otherwise than its definition")
	}
	for i, r := range sorted[1:] {
		orderIs(t, sorted[i], r, -1)
	}
}
