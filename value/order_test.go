package value_test

import (
	"cmp"
	"graphdb/api"
	"graphdb/value"
	"math/big"
	"math/rand"
	"slices"
	"strings"
	"testing"
)

// pairs are results for two values, the same in both orders.
type pairs []struct {
	a, b api.Value
	want int
}

func checkBothWays(t *testing.T, name string, call func(a, b api.Value) int, l pairs) {
	t.Helper()
	for _, p := range l {
		if r := call(p.a, p.b); r != p.want {
			t.Errorf("%s(%v, %v) = %d; want %d", name, p.a, p.b, r, p.want)
		}
		if r := call(p.b, p.a); r != p.want {
			t.Errorf("%s(%v, %v) = %d; want %d", name, p.b, p.a, r, p.want)
		}
	}
}

// isNumber reports whether v is of a kind of numbers.
func isNumber(v api.Value) bool {
	return v.Kind == api.VInt || v.Kind == api.VRat
}

// exactly returns the exact value of a valid number.
func exactly(v api.Value) *big.Rat {
	if v.Kind == api.VInt {
		return big.NewRat(int64(v.N), 1)
	}
	return big.NewRat(int64(v.N), int64(v.D))
}

// P4.4
func TestEqual(t *testing.T) {
	const n, u, y = api.No, api.Unknown, api.Yes
	checkBothWays(t, "Equal", value.Equal, pairs{
		{null, null, u}, {null, boolean(false), u}, {null, integer(0), u}, {null, str(""), u}, {null, list(), u}, {null, walk(1), u}, {null, list(null), u},
		{boolean(true), boolean(true), y}, {boolean(false), boolean(false), y}, {boolean(true), boolean(false), n},
		{integer(1), integer(1), y}, {integer(0), integer(0), y}, {integer(1), integer(-1), n}, {integer(m), integer(m), y}, {integer(m), integer(m - 1), n}, {integer(-m), integer(m), n},
		{ratio(1, 2), ratio(1, 2), y}, {ratio(1, 2), ratio(-1, 2), n}, {ratio(1, 2), ratio(1, 3), n}, {ratio(2, 3), ratio(1, 3), n}, {ratio(m-1, m), ratio(m-2, m-1), n}, {ratio(1, m), ratio(1, m), y},
		{ratio(1, 2), integer(1), n}, {ratio(3, 2), integer(1), n}, {ratio(3, 2), integer(3), n}, {ratio(m, m-1), integer(1), n}, {ratio(1, m), integer(0), n},
		{str(""), str(""), y}, {str("a"), str("a"), y}, {str("a"), str("b"), n}, {str("a"), str("A"), n}, {str("a"), str("aa"), n}, {str("a"), str("a "), n}, {str(""), str(" "), n}, {str(strings.Repeat("~", 100)), str(strings.Repeat("~", 99)), n},
		{node(1), node(1), y}, {node(1), node(2), n}, {node(1000000), node(1000000), y}, {edge(1), edge(1), y}, {edge(1), edge(2), n}, {edge(999999), edge(1000000), n},
		// Different kinds, though the fields agree.
		{boolean(true), integer(1), n}, {boolean(false), integer(0), n}, {integer(1), node(1), n}, {integer(1), edge(1), n}, {node(1), edge(1), n}, {boolean(true), node(1), n}, {str(""), boolean(false), n}, {str(""), list(), n}, {str("1"), integer(1), n}, {ratio(1, 2), str("a"), n},
		{integer(0), list(), n}, {list(integer(1)), integer(1), n}, {list(node(1)), walk(1), n}, {list(walk(3).L...), walk(3), n}, {walk(1), node(1), n}, {list(null), integer(1), n},
		{list(), list(), y}, {list(), list(null), n}, {list(), list(integer(1)), n}, {list(integer(1)), list(integer(1)), y}, {list(integer(1)), list(integer(2)), n}, {list(integer(1)), list(ratio(1, 2)), n}, {list(integer(1), integer(2)), list(integer(1), integer(2)), y}, {list(integer(1), integer(2)), list(integer(2), integer(1)), n}, {list(integer(1), integer(2)), list(integer(1)), n},
		// Null inside lists.
		{list(null), list(null), u}, {list(null), list(integer(1)), u}, {list(integer(1), null), list(integer(1), integer(2)), u}, {list(integer(1), null), list(integer(2), null), n}, {list(integer(1), null), list(integer(2), integer(3)), n}, {list(null, integer(1)), list(integer(2), integer(2)), n}, {list(null, integer(1)), list(null, integer(2)), n}, {list(null, integer(1)), list(integer(2), integer(1)), u},
		{list(null), list(null, null), n}, {list(null, null), list(integer(1)), n}, {list(null, integer(1), null), list(integer(1), null, integer(2)), u}, {list(null, integer(1), null, str("a")), list(integer(1), null, integer(2), str("b")), n},
		{list(list(null)), list(list(null)), u}, {list(list(null)), list(list(integer(1))), u}, {list(list(null)), list(list()), n}, {list(list(null)), list(integer(1)), n}, {list(list(null)), list(null), u}, {list(list(null), integer(1)), list(list(integer(5)), integer(2)), n}, {list(integer(1), list(integer(2), list(null))), list(integer(1), list(integer(2), list(integer(3)))), u}, {list(integer(1), list(integer(2), list(null))), list(integer(1), list(integer(3), list(integer(3)))), n},
		{nested(8, null), nested(8, null), u}, {nested(8, integer(1)), nested(8, integer(1)), y}, {nested(8, integer(1)), nested(8, ratio(1, 2)), n}, {nested(8, integer(1)), nested(7, integer(1)), n}, {list(many(64, null)...), list(many(64, integer(1))...), u}, {list(many(64, null)...), list(many(63, null)...), n},
		{walk(1), walk(1), y}, {walk(25), walk(25), y}, {walk(1), walk(3), n}, {path(node(1)), path(node(2)), n}, {walk(3), path(node(1), edge(2), node(4)), n}, {walk(3), path(node(1), edge(3), node(3)), n}, {list(walk(3)), list(walk(3)), y}, {list(walk(3), null), list(walk(3), null), u}, {list(walk(3), null), list(walk(5), null), n},
	})
}

// P4.4: a value that is not valid, or null, equals nothing and is unequal to nothing, not even to itself.
func TestEqualOfNullAndInvalid(t *testing.T) {
	all := slices.Concat(validOrdered(), invalidOrdered())
	for _, a := range append(invalidOrdered(), null) {
		for _, b := range all {
			if r := value.Equal(a, b); r != api.Unknown {
				t.Errorf("Equal(%v, %v) = %d", a, b, r)
			}
			if r := value.Equal(b, a); r != api.Unknown {
				t.Errorf("Equal(%v, %v) = %d", b, a, r)
			}
		}
	}
}

// hasNull reports whether v is null or has a null inside.
func hasNull(v api.Value) bool {
	return v.Kind == api.VNull || slices.ContainsFunc(v.L, hasNull)
}

// P4.4: valid values without null are equal exactly if they are the same, and numbers by their exact values.
func TestEqualOfAllPairs(t *testing.T) {
	for _, a := range validOrdered() {
		for _, b := range validOrdered() {
			r := value.Equal(a, b)
			if isNumber(a) && isNumber(b) && (r == api.Yes) != (exactly(a).Cmp(exactly(b)) == 0) {
				t.Errorf("Equal(%v, %v) = %d", a, b, r)
			}
			if hasNull(a) || hasNull(b) {
				if r == api.Yes {
					t.Errorf("Equal(%v, %v) = %d", a, b, r)
				}
				continue
			}
			want := api.No
			if identical(a, b) {
				want = api.Yes
			}
			if r != want {
				t.Errorf("Equal(%v, %v) = %d; want %d", a, b, r, want)
			}
		}
	}
}

// P4.4
func TestLess(t *testing.T) {
	const n, u, y = api.No, api.Unknown, api.Yes
	for _, c := range (pairs{
		{boolean(false), boolean(true), y}, {boolean(true), boolean(false), n}, {boolean(true), boolean(true), n}, {boolean(false), boolean(false), n},
		{integer(1), integer(2), y}, {integer(2), integer(1), n}, {integer(1), integer(1), n}, {integer(-1), integer(0), y}, {integer(-m), integer(m), y}, {integer(m - 1), integer(m), y}, {integer(m), integer(m - 1), n},
		{ratio(1, 3), ratio(1, 2), y}, {ratio(1, 2), ratio(1, 3), n}, {ratio(1, 2), ratio(1, 2), n}, {ratio(-1, 2), ratio(-1, 3), y}, {ratio(m-2, m-1), ratio(m-1, m), y}, {ratio(m-1, m), ratio(m-2, m-1), n},
		{ratio(1, 2), integer(1), y}, {integer(1), ratio(1, 2), n}, {integer(0), ratio(1, m), y}, {ratio(-1, m), integer(0), y}, {ratio(3, 2), integer(1), n}, {integer(1), ratio(3, 2), y}, {ratio(m, m-1), integer(1), n}, {ratio(m-1, 2), integer(m), y},
		{str(""), str("a"), y}, {str("a"), str("b"), y}, {str("b"), str("a"), n}, {str("a"), str("a"), n}, {str("a"), str("ab"), y}, {str("ab"), str("a"), n}, {str("ab"), str("b"), y}, {str("B"), str("a"), y}, {str("10"), str("9"), y}, {str(" "), str("~"), y}, {str("~"), str(" "), n},
		{null, null, u}, {null, integer(1), u}, {integer(1), null, u}, {integer(1), str("a"), u}, {str("a"), integer(1), u}, {boolean(false), integer(1), u}, {integer(0), boolean(true), u}, {boolean(false), str("a"), u}, {str("1"), integer(2), u}, {ratio(1, 2), str("a"), u}, {ratio(1, 2), boolean(true), u},
		{node(1), node(2), u}, {edge(1), edge(2), u}, {node(1), edge(2), u}, {list(), list(integer(1)), u}, {list(integer(1)), list(integer(2)), u}, {walk(1), walk(3), u}, {walk(1), list(), u}, {integer(1), node(2), u}, {integer(1), list(integer(2)), u}, {null, boolean(true), u}, {null, list(), u},
		{integer(m + 1), integer(1), u}, {integer(1), integer(m + 1), u}, {integer(m + 1), integer(m + 2), u}, {ratio(2, 4), integer(1), u}, {integer(1), ratio(2, 1), u}, {str("a"), str("\x7f"), u}, {str("\n"), str("a"), u}, {str("a"), str(strings.Repeat("b", 101)), u}, {boolean(false), kindAndN(1, 2), u}, {kindAndN(1, -1), boolean(true), u},
	}) {
		if r := value.Less(c.a, c.b); r != c.want {
			t.Errorf("Less(%v, %v) = %d; want %d", c.a, c.b, r, c.want)
		}
	}
}

// P4.4: Less is known for two valid numbers, strings or booleans, and for nothing else.
func TestLessOfAllPairs(t *testing.T) {
	comparable := func(a, b api.Value) bool {
		return isNumber(a) && isNumber(b) || a.Kind == b.Kind && (a.Kind == api.VStr || a.Kind == api.VBool)
	}
	valid, invalid := validOrdered(), invalidOrdered()
	for i, a := range valid {
		for j, b := range valid {
			want := api.Unknown
			if comparable(a, b) {
				want = api.No
				if i < j {
					want = api.Yes
				}
			}
			if r := value.Less(a, b); r != want {
				t.Errorf("Less(%v, %v) = %d; want %d", a, b, r, want)
			}
		}
	}
	for _, a := range invalid {
		for _, b := range slices.Concat(valid, invalid) {
			if r := value.Less(a, b); r != api.Unknown {
				t.Errorf("Less(%v, %v) = %d", a, b, r)
			}
			if r := value.Less(b, a); r != api.Unknown {
				t.Errorf("Less(%v, %v) = %d", b, a, r)
			}
		}
	}
}

// P4.5: valid values come first, by their classes, and then the others, by their fields.
func TestOrder(t *testing.T) {
	l := slices.Concat(validOrdered(), invalidOrdered())
	for i, a := range l {
		for j, b := range l {
			if c := value.Order(a, copied(b)); c != cmp.Compare(i, j) {
				t.Errorf("Order(%v, %v) = %d; want %d", a, b, c, cmp.Compare(i, j))
			}
		}
	}
}

// P4.5: two values that are not valid, with the same kind or not, differ in one field after the other.
func TestOrderOfFields(t *testing.T) {
	all := api.Value{Kind: 9, N: 5, D: 5, S: "m", L: []api.Value{integer(5)}}
	for _, c := range []struct {
		name            string
		smaller, larger api.Value
	}{
		{"Kind", api.Value{Kind: 9, N: 7, D: 7, S: "z", L: many(9, node(1))}, api.Value{Kind: 10}},
		{"N", api.Value{Kind: 9, N: 4, D: 7, S: "z", L: many(9, node(1))}, all},
		{"D", api.Value{Kind: 9, N: 5, D: 4, S: "z", L: many(9, node(1))}, all},
		{"S", api.Value{Kind: 9, N: 5, D: 5, S: "l", L: many(9, node(1))}, all},
		{"S, a prefix", api.Value{Kind: 9, N: 5, D: 5, S: "", L: many(9, node(1))}, all},
		{"L", with(all, many(9, integer(4))), all},
		{"L, a prefix", with(all, nil), all},
		{"L, a longer prefix", all, with(all, many(2, integer(5)))},
		// The elements are compared by Order: valid ones first, by class, not by kind.
		{"L of a valid and another element", with(all, []api.Value{walk(1)}), with(all, []api.Value{kindAndN(-1, 0)})},
		{"L of numbers", with(all, []api.Value{ratio(1, 2)}), with(all, []api.Value{integer(1)})},
		{"L of a list and a path", with(all, []api.Value{list()}), with(all, []api.Value{walk(1)})},
		{"L of others", with(all, []api.Value{path()}), with(all, []api.Value{kindAndN(8, 1)})},
		{"L within L", with(all, []api.Value{with(all, many(1, null))}), with(all, []api.Value{with(all, many(1, boolean(false)))})},
	} {
		if n := value.Order(c.smaller, c.larger); n != -1 {
			t.Errorf("%s: Order(%v, %v) = %d", c.name, c.smaller, c.larger, n)
		}
		if n := value.Order(c.larger, c.smaller); n != 1 {
			t.Errorf("%s: Order(%v, %v) = %d", c.name, c.larger, c.smaller, n)
		}
	}
}

// P4.5: a nil and an empty L are equal, also inside L.
func TestOrderOfEmptyLists(t *testing.T) {
	for _, v := range slices.Concat(validOrdered(), invalidOrdered()) {
		if len(v.L) > 0 {
			continue
		}
		a, b := with(v, nil), with(v, []api.Value{})
		for _, kind := range []int{api.VList, api.VPath, api.VInt, 9} {
			for _, p := range [][2]api.Value{
				{a, b},
				{with(kindAndN(kind, 0), many(1, a)), with(kindAndN(kind, 0), many(1, b))},
				{with(kindAndN(kind, 0), []api.Value{node(1), a, b}), with(kindAndN(kind, 0), []api.Value{node(1), b, a})},
				{with(kindAndN(kind, 0), many(1, list(a))), with(kindAndN(kind, 0), many(1, list(b)))},
			} {
				if value.Order(p[0], p[1]) != 0 || value.Order(p[1], p[0]) != 0 {
					t.Errorf("Order of %v and %v is not 0", p[0], p[1])
				}
				if value.OrderRows(row(p[0]), row(p[1])) != 0 || !value.SameBag([]api.Row{{p[0]}}, []api.Row{{p[1]}}) {
					t.Errorf("the rows %v and %v differ", p[0], p[1])
				}
			}
		}
	}
}

// P4.5: the result is 0 exactly if all fields are equal, and numbers are in the order of their exact values.
func TestOrderIsZeroForTheSame(t *testing.T) {
	l := picks(5, 700)
	same := 0
	for _, a := range l {
		for _, b := range l {
			c := value.Order(a, b)
			if (c == 0) != identical(a, b) || c < -1 || c > 1 {
				t.Fatalf("Order(%v, %v) = %d", a, b, c)
			}
			if c == 0 {
				same++
			}
			if value.Valid(a) && value.Valid(b) && isNumber(a) && isNumber(b) && c != exactly(a).Cmp(exactly(b)) {
				t.Fatalf("Order(%v, %v) = %d", a, b, c)
			}
			if value.Valid(a) && !value.Valid(b) && c != -1 {
				t.Fatalf("Order(%v, %v) = %d, though only the first is valid", a, b, c)
			}
		}
	}
	if same <= 2*len(l) {
		t.Errorf("only %d equal pairs compared", same)
	}
}

// P4.8: Order is antisymmetric and transitive.
func TestOrderIsTotal(t *testing.T) {
	l := slices.Concat(picks(6, 200), validOrdered(), invalidOrdered())
	order := make([][]int, len(l))
	for i, a := range l {
		for _, b := range l {
			order[i] = append(order[i], value.Order(a, b))
		}
	}
	for i := range l {
		for j := range l {
			if order[i][j] != -order[j][i] {
				t.Fatalf("Order of %v and %v: %d and %d", l[i], l[j], order[i][j], order[j][i])
			}
			for k := range l {
				if order[i][j] <= 0 && order[j][k] <= 0 && order[i][k] != min(order[i][j], order[j][k]) {
					t.Fatalf("%v, %v and %v are not in order", l[i], l[j], l[k])
				}
			}
		}
	}
}

// P4.8: Equal and Order agree.
func TestEqualAndOrderAgree(t *testing.T) {
	l := slices.Concat(picks(7, 700), validOrdered(), invalidOrdered())
	agreed := 0
	for _, a := range l {
		for _, b := range l {
			equal, c := value.Equal(a, b), value.Order(a, b)
			if equal == api.Yes && c != 0 {
				t.Fatalf("%v and %v are equal, but Order is %d", a, b, c)
			}
			if c == 0 && value.Valid(a) && value.Valid(b) && equal == api.No {
				t.Fatalf("Order of %v and %v is 0, but they are unequal", a, b)
			}
			if equal != value.Equal(b, a) {
				t.Fatalf("Equal of %v and %v depends on their order", a, b)
			}
			if equal == api.Yes {
				agreed++
			}
		}
	}
	if agreed < len(l) {
		t.Errorf("only %d equal pairs compared", agreed)
	}
}

// rowsOrdered returns rows, each less than the next by OrderRows.
func rowsOrdered() []api.Row {
	bad := kindAndN(9, 0)
	return []api.Row{
		nil, row(null), row(null, null), row(null, null, null), row(null, integer(1)), row(boolean(true)), row(ratio(1, 2)), row(ratio(1, 2), str("z")), row(integer(1)), row(integer(1), integer(0)), row(integer(1), integer(0), null), row(integer(1), integer(2)), row(integer(1), bad), row(integer(2)), row(integer(10)),
		row(str("")), row(str("a")), row(str("a"), str("c")), row(str("ab")), row(str("b")), row(str("b"), integer(1)), row(node(1)), row(node(1), edge(1), node(1)), row(edge(1)), row(list()), row(list(), list()), row(list(integer(1))), row(list(integer(1)), null), row(list(integer(1), null)), row(walk(1)), row(walk(3)), row(walk(3), integer(1)),
		row(integer(m + 1)), row(integer(m+1), null), row(integer(m+1), bad), row(bad), row(bad, integer(5)), row(bad, bad), row(kindAndN(9, 1)),
	}
}

// sameRows reports whether a and b are the same rows in the same order.
func sameRows(a, b []api.Row) bool {
	return slices.EqualFunc(a, b, func(x, y api.Row) bool { return slices.EqualFunc(x, y, identical) })
}

// copiedRows returns a copy of l that shares no memory with it.
func copiedRows(l []api.Row) []api.Row {
	c := make([]api.Row, len(l))
	for i, r := range l {
		c[i] = copied(list(r...)).L
	}
	return c
}

// P4.6
func TestOrderRows(t *testing.T) {
	for i, a := range rowsOrdered() {
		for j, b := range rowsOrdered() {
			if c := value.OrderRows(a, b); c != cmp.Compare(i, j) {
				t.Errorf("OrderRows(%v, %v) = %d; want %d", a, b, c, cmp.Compare(i, j))
			}
		}
	}
	if value.OrderRows(nil, api.Row{}) != 0 || value.OrderRows(api.Row{}, nil) != 0 {
		t.Error("a nil and an empty row differ")
	}
}

// P4.6 and P4.8: whatever the order of the rows was, SortRows has the one result, and it leaves its argument as it was.
func TestSortRows(t *testing.T) {
	source := rand.New(rand.NewSource(8))
	// Each row stands i%3 + 1 times.
	var want []api.Row
	for i, r := range rowsOrdered() {
		for range i%3 + 1 {
			want = append(want, r)
		}
	}
	for round := range 50 {
		l := slices.Clone(want)
		switch round {
		case 0:
		case 1:
			slices.Reverse(l)
		default:
			source.Shuffle(len(l), func(i, j int) { l[i], l[j] = l[j], l[i] })
		}
		before := copiedRows(l)
		if sorted := value.SortRows(l); !sameRows(sorted, want) {
			t.Fatalf("SortRows(%v) = %v", l, sorted)
		}
		if !sameRows(l, before) {
			t.Fatalf("SortRows changed its argument %v to %v", before, l)
		}
	}
}

// P4.6
func TestSortRowsOfFew(t *testing.T) {
	for _, c := range []struct{ l, want []api.Row }{
		{nil, nil},
		{[]api.Row{}, nil},
		{[]api.Row{nil}, []api.Row{nil}},
		{[]api.Row{{}, nil, {}}, []api.Row{nil, nil, nil}},
		{[]api.Row{{integer(1)}}, []api.Row{{integer(1)}}},
		{[]api.Row{{integer(1)}, {}}, []api.Row{{}, {integer(1)}}},
		{[]api.Row{{str("a")}, {integer(5)}, {null}, {ratio(1, 2)}}, []api.Row{{null}, {ratio(1, 2)}, {integer(5)}, {str("a")}}},
		{[]api.Row{{integer(2)}, {integer(1), integer(1)}, {integer(2)}, {integer(1)}}, []api.Row{{integer(1)}, {integer(1), integer(1)}, {integer(2)}, {integer(2)}}},
	} {
		if sorted := value.SortRows(c.l); !sameRows(sorted, c.want) {
			t.Errorf("SortRows(%v) = %v; want %v", c.l, sorted, c.want)
		}
	}
}

// P4.6: a list with room behind it is left as it was, too.
func TestSortRowsLeavesWhatIsBehind(t *testing.T) {
	l := []api.Row{{integer(3)}, {integer(2)}, {integer(1)}, {integer(0)}}
	before := copiedRows(l)
	value.SortRows(l[:2])
	value.SameBag(l[:2], l[1:3])
	if !sameRows(l, before) {
		t.Errorf("%v became %v", before, l)
	}
}

// P4.6
func TestSameBag(t *testing.T) {
	a, b, c := row(integer(1)), row(integer(1), null), row(str("a"))
	bad := row(kindAndN(9, 0))
	for _, p := range []struct {
		a, b []api.Row
		want bool
	}{
		{nil, nil, true},
		{nil, []api.Row{}, true},
		{nil, []api.Row{nil}, false},
		{[]api.Row{nil}, []api.Row{{}}, true},
		{[]api.Row{a}, []api.Row{a}, true},
		{[]api.Row{a}, []api.Row{b}, false},
		{[]api.Row{a, b}, []api.Row{b, a}, true},
		{[]api.Row{a, b, c}, []api.Row{c, a, b}, true},
		{[]api.Row{a, b}, []api.Row{a}, false},
		// Multiplicities count.
		{[]api.Row{a, a}, []api.Row{a}, false},
		{[]api.Row{a, a}, []api.Row{a, a}, true},
		{[]api.Row{a, a, b}, []api.Row{a, b, b}, false},
		{[]api.Row{a, b, a}, []api.Row{b, a, a}, true},
		{[]api.Row{nil, nil}, []api.Row{nil}, false},
		// Null is the same as null here, and so is a value that is not valid.
		{[]api.Row{{null}}, []api.Row{{null}}, true},
		{[]api.Row{{null}}, []api.Row{{null, null}}, false},
		{[]api.Row{bad, a}, []api.Row{a, bad}, true},
		{[]api.Row{bad}, []api.Row{{kindAndN(9, 1)}}, false},
		{[]api.Row{{ratio(2, 4)}}, []api.Row{{ratio(1, 2)}}, false},
		{[]api.Row{{integer(1)}}, []api.Row{{ratio(1, 1)}}, false},
		{[]api.Row{{integer(1)}}, []api.Row{{boolean(true)}}, false},
		{[]api.Row{{list(node(1))}}, []api.Row{{walk(1)}}, false},
		// The same values, spread over other rows.
		{[]api.Row{{integer(1), integer(2)}}, []api.Row{{integer(1)}, {integer(2)}}, false},
		{[]api.Row{{integer(1), integer(2)}, {integer(3)}}, []api.Row{{integer(1)}, {integer(2), integer(3)}}, false},
		{[]api.Row{{integer(1), integer(2)}}, []api.Row{{integer(2), integer(1)}}, false},
	} {
		for _, q := range [][2][]api.Row{{p.a, p.b}, {p.b, p.a}} {
			before := [2][]api.Row{copiedRows(q[0]), copiedRows(q[1])}
			if same := value.SameBag(q[0], q[1]); same != p.want {
				t.Errorf("SameBag(%v, %v) = %v", q[0], q[1], same)
			}
			if !sameRows(q[0], before[0]) || !sameRows(q[1], before[1]) {
				t.Errorf("SameBag changed its arguments %v", before)
			}
		}
	}
}

// P4.6: a bag is the same in any order, and no longer if one row is replaced.
func TestSameBagShuffled(t *testing.T) {
	source := rand.New(rand.NewSource(9))
	all := rowsOrdered()
	for range 100 {
		var a []api.Row
		for range 1 + source.Intn(40) {
			a = append(a, all[source.Intn(len(all))])
		}
		b := copiedRows(a)
		source.Shuffle(len(b), func(i, j int) { b[i], b[j] = b[j], b[i] })
		if !value.SameBag(a, b) {
			t.Errorf("SameBag(%v, %v) is false", a, b)
		}
		i := source.Intn(len(b))
		b[i] = append(slices.Clone(b[i]), null)
		if value.SameBag(a, b) {
			t.Errorf("SameBag(%v, %v) is true", a, b)
		}
	}
}
