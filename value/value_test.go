package value_test

import (
	"graphdb/api"
	"graphdb/value"
	"math"
	"math/rand"
	"slices"
	"strings"
	"testing"
)

const m = api.MaxInt

// least and greatest are the ends of int.
const (
	least    = math.MinInt
	greatest = math.MaxInt
)

// These write values as api has them, without the constructors under test.
var null = api.Value{}

func integer(n int) api.Value        { return api.Value{Kind: api.VInt, N: n} }
func ratio(n, d int) api.Value       { return api.Value{Kind: api.VRat, N: n, D: d} }
func str(s string) api.Value         { return api.Value{Kind: api.VStr, S: s} }
func node(n int) api.Value           { return api.Value{Kind: api.VNode, N: n} }
func edge(n int) api.Value           { return api.Value{Kind: api.VEdge, N: n} }
func list(l ...api.Value) api.Value  { return api.Value{Kind: api.VList, L: l} }
func path(l ...api.Value) api.Value  { return api.Value{Kind: api.VPath, L: l} }
func row(l ...api.Value) api.Row     { return l }
func kindAndN(kind, n int) api.Value { return api.Value{Kind: kind, N: n} }

func boolean(b bool) api.Value {
	n := 0
	if b {
		n = 1
	}
	return api.Value{Kind: api.VBool, N: n}
}

// walk returns a path of n values with the ids from 1 on; it ends with an edge if n is even.
func walk(n int) api.Value {
	var l []api.Value
	for i := range n {
		if i%2 == 0 {
			l = append(l, node(i+1))
		} else {
			l = append(l, edge(i+1))
		}
	}
	return path(l...)
}

// many returns n times the value v.
func many(n int, v api.Value) []api.Value {
	return slices.Repeat([]api.Value{v}, n)
}

// nested returns the value v within n lists.
func nested(n int, v api.Value) api.Value {
	for range n {
		v = list(v)
	}
	return v
}

// with returns v with the elements l, nil or not.
func with(v api.Value, l []api.Value) api.Value {
	v.L = l
	return v
}

// identical reports whether all fields of a and b are equal; a nil and an empty L are.
func identical(a, b api.Value) bool {
	return a.Kind == b.Kind && a.N == b.N && a.D == b.D && a.S == b.S && slices.EqualFunc(a.L, b.L, identical)
}

// copied returns a copy of v that shares no memory with it.
func copied(v api.Value) api.Value {
	if v.L != nil {
		l := make([]api.Value, len(v.L))
		for i, e := range v.L {
			l[i] = copied(e)
		}
		v.L = l
	}
	return v
}

// validOrdered returns valid values of all kinds and at the ends of all ranges, each less than the next by Order.
func validOrdered() []api.Value {
	return []api.Value{
		null,
		boolean(false), boolean(true),
		integer(-m), integer(1 - m), ratio(-m, 3), ratio(1-m, 10), integer(-2), ratio(-3, 2), ratio(-m, m-1), integer(-1), ratio(1-m, m), ratio(-1, 2), ratio(-1, 3), ratio(-1, m),
		integer(0), ratio(1, m), ratio(1, m-1), ratio(1, 3), ratio(1, 2), ratio(2, 3), ratio(m-2, m-1), ratio(m-1, m), integer(1), ratio(m, m-1), ratio(m-1, m-2), ratio(3, 2), integer(2), integer(10),
		ratio(m-1, 7), ratio(m, 7), ratio(m-1, 2), integer(m / 2), integer(m - 1), integer(m),
		str(""), str(" "), str(" ~"), str("!"), str("'"), str("''"), str("'a"), str("1"), str("10"), str("2"), str("A"), str("B"), str("a"), str("a "), str("a'"), str("aa"), str("ab"), str("b"), str("null"),
		str("~"), str(strings.Repeat("~", 99)), str(strings.Repeat("~", 99) + " "), str(strings.Repeat("~", 100)),
		node(1), node(2), node(10), node(999999), node(1000000),
		edge(1), edge(2), edge(10), edge(999999), edge(1000000),
		list(), list(null), list(null, null), list(many(64, null)...), list(null, boolean(false)), list(null, integer(3)),
		list(boolean(false)), list(boolean(true)), list(integer(-1)), list(ratio(1, 2)), list(ratio(1, 2), null), list(ratio(1, 2), str("a")), list(integer(1)), list(integer(1), null), list(integer(1), ratio(3, 2)), list(integer(1), integer(2)), list(integer(2)),
		list(str("")), list(str("a")), list(str("a"), str("b")), list(str("a, b")), list(str("b")), list(node(1)), list(node(2)), list(edge(1)), list(edge(1), node(1)),
		list(list()), list(list(), list()), list(list(null)), list(list(integer(1))), list(list(integer(1), integer(2))), list(list(integer(2)), integer(3)), list(list(list())), list(nested(6, list(null))), list(nested(6, list(integer(5)))), list(nested(6, list(walk(25)))), list(path(node(1))), list(path(node(1)), null), list(walk(3)),
		path(node(1)), path(node(1), edge(1), node(1)), path(node(1), edge(1), node(2)), walk(3), walk(5), walk(23), walk(25), path(node(1), edge(3), node(1)), path(node(2)), path(node(1000000)), path(node(1000000), edge(1000000), node(1000000)),
	}
}

// invalidOrdered returns values that are not valid, for each of the reasons, each less than the next by Order.
func invalidOrdered() []api.Value {
	long, longer := strings.Repeat("a", 101), strings.Repeat("b", 1000)
	return slices.Concat(
		[]api.Value{{Kind: least}, {Kind: -1, N: least}, {Kind: -1}, {Kind: -1, S: "a"}, {Kind: -1, S: "a", L: many(1, null)}},
		// Null with a field.
		[]api.Value{{N: least}, {N: -1}, {N: -1, D: 1}, {D: -1}, {L: many(1, null)}, {S: " "}, {S: "a"}, {D: 1}, {N: 1}, {N: greatest}},
		// A boolean that is neither 0 nor 1, or has a field besides.
		[]api.Value{{Kind: 1, N: least}, {Kind: 1, N: -1}, {Kind: 1, D: -1}, {Kind: 1, L: many(1, null)}, {Kind: 1, S: "false"}, {Kind: 1, D: 1}, {Kind: 1, N: 1, D: least}, {Kind: 1, N: 1, L: many(1, null)}, {Kind: 1, N: 1, L: many(2, null)}, {Kind: 1, N: 1, S: "a"}, {Kind: 1, N: 1, D: 1}, {Kind: 1, N: 2}, {Kind: 1, N: greatest}},
		// An integer beyond the range, or with a field besides.
		[]api.Value{{Kind: 2, N: least}, {Kind: 2, N: -m - 1}, {Kind: 2, N: -m, D: 1}, {Kind: 2, D: -1}, {Kind: 2, L: many(1, integer(1))}, {Kind: 2, S: "0"}, {Kind: 2, D: 1}, {Kind: 2, N: 1, D: 1}, {Kind: 2, N: m, D: 2}, {Kind: 2, N: m + 1}, {Kind: 2, N: greatest}},
		// A fraction that is not valid or is an integer, or with a field besides.
		[]api.Value{{Kind: 3, N: least, D: least}, {Kind: 3, N: least, D: 3}, {Kind: 3, N: -m - 1, D: 2}, {Kind: 3, N: -m, D: 2}, {Kind: 3, N: -3, D: -2}, {Kind: 3, N: -1, D: 1}, {Kind: 3, N: -1, D: 2, S: "a"}, {Kind: 3, D: -1}, {Kind: 3}, {Kind: 3, D: 1}, {Kind: 3, D: 2}, {Kind: 3, D: m},
			{Kind: 3, N: 1, D: least}, {Kind: 3, N: 1, D: -2}, {Kind: 3, N: 1}, {Kind: 3, N: 1, D: 1}, {Kind: 3, N: 1, D: 2, L: many(1, null)}, {Kind: 3, N: 1, D: 2, S: "a"}, {Kind: 3, N: 1, D: m + 1}, {Kind: 3, N: 1, D: greatest}, {Kind: 3, N: 2, D: 4}, {Kind: 3, N: 6, D: 4}, {Kind: 3, N: m, D: 1}, {Kind: 3, N: m, D: m}, {Kind: 3, N: m + 1, D: 2}, {Kind: 3, N: greatest, D: 2}},
		// A string that is too long or has other bytes, or a field besides.
		[]api.Value{{Kind: 4, N: -1}, {Kind: 4, D: -1}, {Kind: 4, S: "", L: many(1, null)}, str("\x00"), str("\t"), str("\n"), str("\x1f"), str(" \x1f"), str("A\x1f"), str("a\x00b"), str("a\x1f"), str(strings.Repeat("a", 99) + "\n"), str(long), {Kind: 4, S: "ab", L: many(1, null)}, {Kind: 4, S: "ab", L: many(2, null)}, str("ab\x7f"), str("a\x7f"), str(longer), str("\x7f"), str("\x80"), str("\u00e9"), str("\xff"), {Kind: 4, D: 1}, {Kind: 4, D: 1, S: "a"}, {Kind: 4, N: 1}, {Kind: 4, N: 1, S: "a"}},
		// A node without an id, or with a field besides.
		[]api.Value{node(least), node(-1), node(0), {Kind: 5, N: 1, D: -1}, {Kind: 5, N: 1, L: many(1, null)}, {Kind: 5, N: 1, S: "A"}, {Kind: 5, N: 1, D: 1}, {Kind: 5, N: 1000000, D: 1}, node(1000001), node(greatest)},
		// Likewise an edge.
		[]api.Value{edge(least), edge(-1), edge(0), {Kind: 6, N: 1, D: -1}, {Kind: 6, N: 1, L: many(1, null)}, {Kind: 6, N: 1, S: "A"}, {Kind: 6, N: 1, D: 1}, {Kind: 6, N: 1000000, D: 1}, edge(1000001), edge(greatest)},
		// A path that is too long, of an even number, with something else than nodes and edges in turn, or with a field besides.
		[]api.Value{{Kind: 7, N: -1, L: many(1, node(1))}, {Kind: 7, D: -1, L: many(1, node(1))}, path(), path(null), path(boolean(true)), path(integer(1)), path(str("a")), path(node(1), null), path(node(1), null, node(1)), path(node(1), integer(2), node(3)), path(node(1), node(1)), path(node(1), node(1), node(1)), path(node(1), node(2), edge(3)), path(node(1), edge(1)), path(node(1), edge(1), null), path(node(1), edge(1), edge(1)), path(node(1), edge(1), path(node(1))), path(node(1), edge(1), node(0)),
			walk(4), walk(24), walk(26), walk(27), walk(1001), path(node(1), edge(0), node(1)), path(node(1), edge(1000001), node(1)), path(many(2, node(2))...), path(node(2), edge(1)), path(node(2), edge(2)), path(edge(1)), path(edge(1), node(1)), path(edge(1), node(1), edge(1)), path(edge(2)), path(list(node(1))), path(path(node(1))), path(node(0)), path(node(1000001)), path(edge(0)), {Kind: 7, S: "a", L: many(1, node(1))}, {Kind: 7, D: 1, L: many(1, node(1))}, {Kind: 7, N: 1}, {Kind: 7, N: 1, L: many(1, node(1))}},
		// A list that is too long or nested too deeply, with an element that is not valid, or with a field besides.
		[]api.Value{{Kind: 8, N: -1}, {Kind: 8, D: -1, L: many(1, null)}, list(many(65, null)...), list(many(66, null)...), list(append(many(65, null), integer(1))...), list(null, node(0)), list(integer(1), integer(2), node(0)), list(nested(8, null)), list(integer(m + 1)), list(ratio(2, 4)), list(str("\n")), list(str(long)), list(node(0)), list(node(0), null), list(path()), list(path(node(1), node(2))), list(list(many(65, null)...)), list(nested(9, null)), list(list(list(str("\n")))), list(nested(20, null)), list(kindAndN(9, 0)), {Kind: 8, S: "a"}, {Kind: 8, D: 1}, {Kind: 8, N: 1}, {Kind: 8, N: 1, L: many(1, null)}},
		[]api.Value{{Kind: 9}, {Kind: 9, N: 1}, {Kind: 100, N: 0}, {Kind: 100, N: 1, D: 2}, {Kind: 1 << 32}, {Kind: greatest, N: least}, {Kind: greatest}},
	)
}

// pick returns a pseudorandom value, which is mostly valid, nested at most depth deep. The choices are few, so that equal values are likely.
func pick(source *rand.Rand, depth int) api.Value {
	// Almost half of the values are lists, which have the most varieties.
	v := api.Value{Kind: min(source.Intn(14), api.VList)}
	switch v.Kind {
	case api.VBool, api.VInt:
		v.N = source.Intn(2)
	case api.VRat:
		v.N, v.D = 2*source.Intn(3)-1, 2
	case api.VStr:
		v.S = []string{"", "'", "a", "ab"}[source.Intn(4)]
	case api.VNode, api.VEdge:
		v.N = 1 + source.Intn(2)
	case api.VPath:
		v = walk(1 + 2*source.Intn(2))
		v.L[0].N = 1 + source.Intn(2)
	case api.VList:
		for range source.Intn(4) * min(depth, 1) {
			v.L = append(v.L, pick(source, depth-1))
		}
	}
	if source.Intn(10) == 0 {
		return spoiled(source, v)
	}
	return v
}

// spoiled returns v with one field changed, which mostly makes it invalid.
func spoiled(source *rand.Rand, v api.Value) api.Value {
	switch source.Intn(5) {
	case 0:
		v.Kind = source.Intn(11) - 1
	case 1:
		v.N += source.Intn(3) - 1
	case 2:
		v.D += source.Intn(3) - 1
	case 3:
		v.S += "\n"
	case 4:
		v.L = append(slices.Clone(v.L), pick(source, 0))
	}
	return v
}

// picks returns n pseudorandom values, valid and not.
func picks(seed int64, n int) []api.Value {
	source := rand.New(rand.NewSource(seed))
	l := make([]api.Value, n)
	for i := range l {
		l[i] = pick(source, 3)
	}
	return l
}

// chain returns a value of which all 2^16 levels of nesting, the most that are promised, have the element v besides.
func chain(kind int, v api.Value) api.Value {
	c := api.Value{Kind: kind}
	for range 1 << 16 {
		c = api.Value{Kind: kind, L: []api.Value{v, c}}
	}
	return c
}

// P4.1
func TestConstructors(t *testing.T) {
	elements := []api.Value{node(1), edge(2), node(3)}
	mixed := []api.Value{null, integer(m + 1), kindAndN(9, 9)}
	for _, c := range []struct {
		name      string
		got, want api.Value
	}{
		{"Null", value.Null(), api.Value{Kind: 0}},
		{"Bool(false)", value.Bool(false), api.Value{Kind: 1, N: 0}},
		{"Bool(true)", value.Bool(true), api.Value{Kind: 1, N: 1}},
		{"Int(0)", value.Int(0), api.Value{Kind: 2}},
		{"Int(-5)", value.Int(-5), api.Value{Kind: 2, N: -5}},
		{"Int(MaxInt)", value.Int(m), api.Value{Kind: 2, N: m}},
		{"Rat(1/2)", value.Rat(api.Frac{N: 1, D: 2}), api.Value{Kind: 3, N: 1, D: 2}},
		{"Rat(-3/2)", value.Rat(api.Frac{N: -3, D: 2}), api.Value{Kind: 3, N: -3, D: 2}},
		{"Rat(4/1)", value.Rat(api.Frac{N: 4, D: 1}), api.Value{Kind: 2, N: 4}},
		{"Rat(0/1)", value.Rat(api.Frac{N: 0, D: 1}), api.Value{Kind: 2}},
		{"Rat(-MaxInt/1)", value.Rat(api.Frac{N: -m, D: 1}), api.Value{Kind: 2, N: -m}},
		{"Str()", value.Str(""), api.Value{Kind: 4}},
		{"Str(a'b)", value.Str("a'b"), api.Value{Kind: 4, S: "a'b"}},
		{"Node(1)", value.Node(1), api.Value{Kind: 5, N: 1}},
		{"Edge(1)", value.Edge(1), api.Value{Kind: 6, N: 1}},
		{"List(nil)", value.List(nil), api.Value{Kind: 8}},
		{"List()", value.List([]api.Value{}), api.Value{Kind: 8}},
		{"List", value.List(elements), api.Value{Kind: 8, L: elements}},
		{"Path", value.Path(elements), api.Value{Kind: 7, L: elements}},
		// The arguments are not checked.
		{"Int(MaxInt + 1)", value.Int(m + 1), api.Value{Kind: 2, N: m + 1}},
		{"Int(least)", value.Int(least), api.Value{Kind: 2, N: least}},
		{"Rat(2/4)", value.Rat(api.Frac{N: 2, D: 4}), api.Value{Kind: 3, N: 2, D: 4}},
		{"Rat(0/2)", value.Rat(api.Frac{N: 0, D: 2}), api.Value{Kind: 3, D: 2}},
		{"Rat(0/0)", value.Rat(api.Frac{}), api.Value{Kind: 3}},
		{"Rat(5/0)", value.Rat(api.Frac{N: 5}), api.Value{Kind: 3, N: 5}},
		{"Rat(5/-1)", value.Rat(api.Frac{N: 5, D: -1}), api.Value{Kind: 3, N: 5, D: -1}},
		{"Rat(least/1)", value.Rat(api.Frac{N: least, D: 1}), api.Value{Kind: 2, N: least}},
		{"Rat(least/greatest)", value.Rat(api.Frac{N: least, D: greatest}), api.Value{Kind: 3, N: least, D: greatest}},
		{"Str of other bytes", value.Str("\n\xff"), api.Value{Kind: 4, S: "\n\xff"}},
		{"Str of 1000 bytes", value.Str(strings.Repeat("a", 1000)), api.Value{Kind: 4, S: strings.Repeat("a", 1000)}},
		{"Node(0)", value.Node(0), api.Value{Kind: 5}},
		{"Node(-1)", value.Node(-1), api.Value{Kind: 5, N: -1}},
		{"Node(1000001)", value.Node(1000001), api.Value{Kind: 5, N: 1000001}},
		{"Edge(0)", value.Edge(0), api.Value{Kind: 6}},
		{"Edge(least)", value.Edge(least), api.Value{Kind: 6, N: least}},
		{"List of others", value.List(mixed), api.Value{Kind: 8, L: mixed}},
		{"List of 65", value.List(many(65, null)), api.Value{Kind: 8, L: many(65, null)}},
		{"Path(nil)", value.Path(nil), api.Value{Kind: 7}},
		{"Path of others", value.Path(mixed), api.Value{Kind: 7, L: mixed}},
	} {
		if !identical(c.got, c.want) {
			t.Errorf("%s = %v; want %v", c.name, c.got, c.want)
		}
	}
}

// P4.2
func TestValid(t *testing.T) {
	for _, v := range validOrdered() {
		if !value.Valid(v) {
			t.Errorf("Valid(%v) is false", v)
		}
	}
	for _, v := range invalidOrdered() {
		if value.Valid(v) {
			t.Errorf("Valid(%v) is true", v)
		}
	}
}

// setFields returns v with a field that its kind does not use, set to something.
func setFields(v api.Value) []api.Value {
	var l []api.Value
	add := func(change func(c *api.Value)) {
		c := v
		change(&c)
		l = append(l, c)
	}
	usesN := v.Kind == api.VBool || v.Kind == api.VInt || v.Kind == api.VRat || v.Kind == api.VNode || v.Kind == api.VEdge
	for _, n := range []int{1, 2, -1, m, least, greatest} {
		if !usesN {
			add(func(c *api.Value) { c.N = n })
		}
		if v.Kind != api.VRat {
			add(func(c *api.Value) { c.D = n })
		}
	}
	for _, s := range []string{" ", "a", "\n", "null", "\x00"} {
		if v.Kind != api.VStr {
			add(func(c *api.Value) { c.S = s })
		}
	}
	for _, e := range [][]api.Value{many(1, null), many(1, node(1)), many(2, integer(1)), walk(3).L} {
		if v.Kind != api.VList && v.Kind != api.VPath {
			add(func(c *api.Value) { c.L = e })
		}
	}
	return l
}

// P4.2: fields that a kind does not use are zero.
func TestValidFieldsThatAreNotUsed(t *testing.T) {
	for _, v := range validOrdered() {
		for _, c := range setFields(v) {
			if value.Valid(c) || value.Plain(c) {
				t.Errorf("%v is valid", c)
			}
			if _, ok := value.Number(c); ok {
				t.Errorf("%v is a number", c)
			}
		}
	}
}

// P4.2: an empty L is as good as none.
func TestValidEmptyList(t *testing.T) {
	for _, v := range slices.Concat(validOrdered(), invalidOrdered()) {
		if len(v.L) > 0 {
			continue
		}
		a, b := with(v, nil), with(v, []api.Value{})
		if value.Valid(a) != value.Valid(b) || value.Plain(a) != value.Plain(b) {
			t.Errorf("%v: a nil and an empty L differ", v)
		}
		if a, b := list(a), list(b); value.Valid(a) != value.Valid(b) {
			t.Errorf("%v: a nil and an empty L differ inside a list", v)
		}
	}
}

// P4.2: every kind with every N and D of interest.
func TestValidNumbers(t *testing.T) {
	ends := []int{least, -m - 1, -m, -1000001, -1000000, -7, -2, -1, 0, 1, 2, 3, 4, 999999, 1000000, 1000001, m - 1, m, m + 1, greatest}
	for _, n := range ends {
		for kind, want := range map[int]bool{
			api.VNull: n == 0,
			api.VBool: n == 0 || n == 1,
			api.VInt:  -1000000000000000 <= n && n <= 1000000000000000,
			api.VStr:  n == 0,
			api.VNode: 1 <= n && n <= 1000000,
			api.VEdge: 1 <= n && n <= 1000000,
			api.VList: n == 0,
			api.VPath: false,
			-1:        false,
			9:         false,
		} {
			if v := kindAndN(kind, n); value.Valid(v) != want {
				t.Errorf("Valid(%v) = %v", v, !want)
			}
		}
		for _, d := range ends {
			want := -m <= n && n <= m && 2 <= d && d <= m && divisor(n, d) == 1
			if v := ratio(n, d); value.Valid(v) != want {
				t.Errorf("Valid(%v) = %v", v, !want)
			}
		}
	}
}

// divisor returns the greatest common divisor of two integers in range.
func divisor(a, b int) int {
	if b == 0 {
		return max(a, -a)
	}
	return divisor(b, a%b)
}

// P4.2: every byte, at the ends and in the middle, and every length.
func TestValidStrings(t *testing.T) {
	for c := range 256 {
		b := string([]byte{byte(c)})
		for _, s := range []string{b, b + "a", "a" + b, "a" + b + "a", strings.Repeat("a", 99) + b, b + strings.Repeat("a", 99)} {
			if ok := value.Valid(str(s)); ok != (32 <= c && c <= 126) {
				t.Errorf("Valid(%q) = %v", s, ok)
			}
		}
	}
	for n := range 300 {
		if ok := value.Valid(str(strings.Repeat("~", n))); ok != (n <= 100) {
			t.Errorf("a string of %d bytes: Valid is %v", n, ok)
		}
	}
}

// P4.2
func TestValidLists(t *testing.T) {
	for n := range 130 {
		if ok := value.Valid(list(many(n, integer(n))...)); ok != (n <= 64) {
			t.Errorf("a list of %d values: Valid is %v", n, ok)
		}
	}
	for n := range 20 {
		for _, v := range []api.Value{null, integer(1), str("a"), node(1), edge(1), walk(25)} {
			if ok := value.Valid(nested(n, v)); ok != (n <= 8) {
				t.Errorf("%v nested %d deep: Valid is %v", v, n, ok)
			}
			// The deepest element decides, wherever it stands.
			if ok := value.Valid(list(null, list(), nested(n, v), integer(1))); ok != (n+1 <= 8) {
				t.Errorf("%v nested %d deep within a list: Valid is %v", v, n, ok)
			}
		}
		if ok := value.Valid(nested(n, list())); ok != (n+1 <= 8) {
			t.Errorf("the empty list nested %d deep: Valid is %v", n, ok)
		}
		if value.Valid(nested(n, node(0))) {
			t.Errorf("node 0 nested %d deep is valid", n)
		}
	}
	// Long lists beside each other add nothing to the depth, and each level may have 64 elements.
	if wide := list(many(64, list(many(64, list(many(64, null)...))...))...); !value.Valid(wide) {
		t.Error("64 lists of 64 lists of 64 values are not valid")
	}
	for i := range 64 {
		l := many(64, null)
		l[i] = node(0)
		if value.Valid(list(l...)) {
			t.Errorf("a list with node 0 at %d is valid", i)
		}
	}
}

// P4.2
func TestValidPaths(t *testing.T) {
	for n := range 60 {
		if ok := value.Valid(walk(n)); ok != (n%2 == 1 && n <= 25) {
			t.Errorf("a path of %d values: Valid is %v", n, ok)
		}
	}
	for _, n := range []int{1, 3, 25} {
		for i := range n {
			for _, v := range slices.Concat(validOrdered(), invalidOrdered()) {
				p := copied(walk(n))
				p.L[i] = v
				want := v.D == 0 && v.S == "" && len(v.L) == 0 && 1 <= v.N && v.N <= 1000000 && v.Kind == []int{api.VNode, api.VEdge}[i%2]
				if ok := value.Valid(p); ok != want {
					t.Errorf("a path of %d values with %v at %d: Valid is %v", n, v, i, ok)
				}
			}
		}
	}
}

// P4.2
func TestPlain(t *testing.T) {
	for _, v := range slices.Concat(validOrdered(), invalidOrdered()) {
		want := value.Valid(v) && (v.Kind == api.VBool || v.Kind == api.VInt || v.Kind == api.VStr)
		if ok := value.Plain(v); ok != want {
			t.Errorf("Plain(%v) = %v", v, ok)
		}
	}
	for _, v := range []api.Value{boolean(false), boolean(true), integer(0), integer(-m), integer(m), str(""), str("a'b"), str(strings.Repeat("~", 100))} {
		if !value.Plain(v) {
			t.Errorf("Plain(%v) is false", v)
		}
	}
	for _, v := range []api.Value{null, ratio(1, 2), node(1), edge(1), list(), list(integer(1)), walk(1), kindAndN(1, 2), integer(m + 1), str("\n"), str(strings.Repeat("~", 101))} {
		if value.Plain(v) {
			t.Errorf("Plain(%v) is true", v)
		}
	}
}

// P4.2
func TestNumber(t *testing.T) {
	for _, c := range []struct {
		v    api.Value
		want api.Frac
	}{
		{integer(0), api.Frac{N: 0, D: 1}},
		{integer(-7), api.Frac{N: -7, D: 1}},
		{integer(m), api.Frac{N: m, D: 1}},
		{integer(-m), api.Frac{N: -m, D: 1}},
		{ratio(1, 2), api.Frac{N: 1, D: 2}},
		{ratio(-m, m-1), api.Frac{N: -m, D: m - 1}},
		{ratio(1, m), api.Frac{N: 1, D: m}},
	} {
		if f, ok := value.Number(c.v); f != c.want || !ok {
			t.Errorf("Number(%v) = %v, %v; want %v", c.v, f, ok, c.want)
		}
	}
	for _, v := range slices.Concat(validOrdered(), invalidOrdered()) {
		want := value.Valid(v) && (v.Kind == api.VInt || v.Kind == api.VRat)
		f, ok := value.Number(v)
		if ok != want || !ok && f != (api.Frac{}) {
			t.Errorf("Number(%v) = %v, %v", v, f, ok)
		}
	}
}

// P4.1 and P4.2: what Rat makes of a valid fraction is valid, and its number is that fraction.
func TestNumberOfRat(t *testing.T) {
	for _, f := range []api.Frac{{N: 0, D: 1}, {N: 1, D: 1}, {N: -m, D: 1}, {N: 1, D: 2}, {N: -1, D: m}, {N: m, D: m - 1}} {
		v := value.Rat(f)
		if g, ok := value.Number(v); g != f || !ok || !value.Valid(v) {
			t.Errorf("Number(Rat(%v)) = %v, %v", f, g, ok)
		}
	}
}

// P4.2, P4.4, P4.5 and P4.7: values that are nested as deeply as is promised, and those that are much too wide, are answered like others (R1).
func TestDeepAndWide(t *testing.T) {
	wide := list(many(1<<20, null)...)
	for _, kind := range []int{api.VList, api.VPath, api.VNull, 9} {
		deep := chain(kind, null)
		for _, v := range []api.Value{deep, list(deep), path(deep), path(node(1), edge(1), deep), wide} {
			if value.Valid(v) || value.Plain(v) || value.Text(v) != "?" || value.Truth(v) != api.Unknown {
				t.Errorf("kind %d: a value that is not valid counts as valid", v.Kind)
			}
			if value.Equal(v, v) != api.Unknown || value.Less(v, v) != api.Unknown || value.Order(v, v) != 0 {
				t.Errorf("kind %d: a value that is not valid, compared with itself", v.Kind)
			}
			if value.Order(v, null) != 1 || value.Order(null, v) != -1 {
				t.Errorf("kind %d: a value that is not valid, compared with null", v.Kind)
			}
		}
		if other := chain(kind, node(1)); value.Order(deep, other) != -1 || value.Order(other, deep) != 1 {
			t.Errorf("kind %d: deep values are not in order", kind)
		}
		// These differ at the deepest level only.
		a, b := nested(1<<16, kindAndN(kind, -2)), nested(1<<16, kindAndN(kind, -1))
		if value.Order(a, b) != -1 || value.Order(b, a) != 1 || value.Order(a, copied(a)) != 0 {
			t.Errorf("kind %d: values that differ deep inside are not in order", kind)
		}
	}
}
