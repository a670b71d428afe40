package column_test

import (
	"encoding/binary"
	"encoding/hex"
	"fmt"
	"graphdb/api"
	"graphdb/column"
	"math"
	"reflect"
	"slices"
	"strconv"
	"strings"
	"testing"
)

// noIds holds integers that are no ids: those beside the range of ids, and those that would be in it if some of their bits were lost.
var noIds = []int{0, -1, 1000001, 1000002, -1000000, 1<<32 + 1, -1 << 32, math.MinInt, math.MinInt + 1, math.MaxInt - 1, math.MaxInt}

// numbers returns the integers that blanks separate in text.
func numbers(text string) []int {
	var l []int
	for _, word := range strings.Fields(text) {
		n, err := strconv.Atoi(word)
		if err != nil {
			panic(err)
		}
		l = append(l, n)
	}
	return l
}

// col returns the column with these lists.
func col(nodes, first, to, edge string) api.Column {
	return api.Column{Nodes: numbers(nodes), First: numbers(first), To: numbers(to), Edge: numbers(edge)}
}

// adjs returns the entries that commas separate in text, each as its From, To and Edge.
func adjs(text string) []api.Adj {
	var l []api.Adj
	for _, part := range strings.Split(text, ",") {
		if n := numbers(part); len(n) > 0 {
			l = append(l, api.Adj{From: n[0], To: n[1], Edge: n[2]})
		}
	}
	return l
}

// coded returns the bytes that text describes: a number without a sign as a varint, one with a sign as the varint of its zigzag form, and the hexadecimal digits behind an x as they are.
func coded(text string) []byte {
	var b []byte
	for _, word := range strings.Fields(text) {
		switch word[0] {
		case 'x':
			raw, err := hex.DecodeString(word[1:])
			if err != nil {
				panic(err)
			}
			b = append(b, raw...)
		case '+', '-':
			b = binary.AppendVarint(b, int64(numbers(word)[0]))
		default:
			b = binary.AppendUvarint(b, uint64(numbers(word)[0]))
		}
	}
	return b
}

// arguments are what the functions of column get.
type arguments struct {
	g api.Graph
	c api.Column
	l []api.Adj
	b []byte
}

// guarded returns a copy of l with one more element in the capacity behind its last one.
func guarded[T any](l []T) []T {
	var guard T
	if len(l) > 0 {
		guard = l[0]
	}
	return slices.Concat(l, []T{guard})[:len(l)]
}

// whole returns a copy of l that has all of the capacity of l as its length.
func whole[T any](l []T) []T {
	return slices.Clone(l[:cap(l)])
}

// guard returns a copy of x that shares no slice with it and has guarded slices.
func guard(x arguments) arguments {
	g, c := x.g, x.c
	g.Nodes, g.Edges = guarded(g.Nodes), guarded(g.Edges)
	for i := range g.Nodes {
		n := &g.Nodes[i]
		n.Labels, n.Props = guarded(n.Labels), guarded(n.Props)
	}
	for i := range g.Edges {
		e := &g.Edges[i]
		e.Props = guarded(e.Props)
	}
	c = api.Column{Nodes: guarded(c.Nodes), First: guarded(c.First), To: guarded(c.To), Edge: guarded(c.Edge)}
	return arguments{g, c, guarded(x.l), guarded(x.b)}
}

// reveal returns x with the capacity of its slices as their length, so that what stands behind their ends counts.
func reveal(x arguments) arguments {
	g, c := x.g, x.c
	g.Nodes, g.Edges = whole(g.Nodes), whole(g.Edges)
	for i := range g.Nodes {
		n := &g.Nodes[i]
		n.Labels, n.Props = whole(n.Labels), whole(n.Props)
	}
	for i := range g.Edges {
		e := &g.Edges[i]
		e.Props = whole(e.Props)
	}
	c = api.Column{Nodes: whole(c.Nodes), First: whole(c.First), To: whole(c.To), Edge: whole(c.Edge)}
	return arguments{g, c, whole(x.l), whole(x.b)}
}

// untouched calls call with a copy of x, and fails if the call changes anything in it or behind it.
func untouched(t *testing.T, x arguments, call func(x arguments)) {
	t.Helper()
	// Two copies made in the same way are equal as long as nothing changes one of them.
	given, kept := guard(x), guard(x)
	call(given)
	if !reflect.DeepEqual(reveal(given), reveal(kept)) {
		t.Errorf("the arguments %+v became %+v", kept, given)
	}
}

// spoil overwrites l and the capacity behind it. If l shares memory with something else, this changes as well.
func spoil[T any](l []T, with T) {
	for i := range l[:cap(l)] {
		l[:cap(l)][i] = with
	}
}

// spoilColumn overwrites the lists of c and the capacity behind them, and fails if two of them share memory.
func spoilColumn(t *testing.T, c api.Column) {
	t.Helper()
	lists := [][]int{c.Nodes, c.First, c.To, c.Edge}
	for i, l := range lists {
		spoil(l, -i)
	}
	for i, l := range lists {
		for _, n := range whole(l) {
			if n != -i {
				t.Fatalf("two lists of one column share memory")
			}
		}
	}
}

// same reports whether the lists of a and b are equal.
func same(a, b api.Column) bool {
	return slices.Equal(a.Nodes, b.Nodes) && slices.Equal(a.First, b.First) && slices.Equal(a.To, b.To) && slices.Equal(a.Edge, b.Edge)
}

// brief returns a text for x, the beginning of it if it is long.
func brief(x any) string {
	text := fmt.Sprintf("%+v", x)
	if len(text) > 2000 {
		return text[:2000] + ".."
	}
	return text
}

// columnIs fails if c and e, what call returned, are not want and err. With an error c must be empty. It overwrites c.
func columnIs(t *testing.T, call string, c api.Column, e api.Errno, want api.Column, err api.Errno) {
	t.Helper()
	if e != err || !same(c, want) {
		t.Errorf("%s = %s, %d, want %s, %d", brief(call), brief(c), e, brief(want), err)
	}
	if e == api.OK && len(c.Nodes) == 0 && len(c.First) > 0 {
		t.Errorf("%s has the First %v", brief(call), c.First)
	}
	spoilColumn(t, c)
}

// buildIs fails if Build of g, typ and dir is not want and err, or if an argument changes.
func buildIs(t *testing.T, g api.Graph, typ string, dir int, want api.Column, err api.Errno) {
	t.Helper()
	untouched(t, arguments{g: g}, func(x arguments) {
		c, e := column.Build(x.g, typ, dir)
		columnIs(t, fmt.Sprintf("Build(%s, %q, %d)", brief(g), typ, dir), c, e, want, err)
	})
}

// ofIs fails if Of of l is not want and err, or if l changes.
func ofIs(t *testing.T, l []api.Adj, want api.Column, err api.Errno) {
	t.Helper()
	untouched(t, arguments{l: l}, func(x arguments) {
		c, e := column.Of(x.l)
		columnIs(t, fmt.Sprintf("Of(%s)", brief(l)), c, e, want, err)
	})
}

// decodeIs fails if Decode of b is not want and err, or if b changes.
func decodeIs(t *testing.T, b []byte, want api.Column, err api.Errno) {
	t.Helper()
	untouched(t, arguments{b: b}, func(x arguments) {
		c, e := column.Decode(x.b)
		columnIs(t, fmt.Sprintf("Decode(% x)", b), c, e, want, err)
	})
}

// readsAs fails if c is not valid, or if its rows and their lengths, its entries or its encoding are not those of l and code, or if c changes.
func readsAs(t *testing.T, c api.Column, l []api.Adj, code []byte) {
	t.Helper()
	untouched(t, arguments{c: c}, func(x arguments) {
		if !column.Valid(x.c) {
			t.Errorf("Valid(%s) = false", brief(c))
		}
		all := column.Entries(x.c)
		if !slices.Equal(all, l) {
			t.Errorf("Entries(%s) = %s, want %s", brief(c), brief(all), brief(l))
		}
		spoil(all, api.Adj{From: -1, To: -1, Edge: -1})
		b := column.Encode(x.c)
		if !slices.Equal(b, code) {
			t.Errorf("Encode(%s) = % x, want % x", brief(c), b, code)
		}
		spoil(b, 0xee)
		for _, id := range askedFor(l) {
			rowIs(t, x.c, id, l)
		}
	})
}

// askedFor returns, each once, ids that the entries of l lead from, those beside them, and integers that are no ids.
func askedFor(l []api.Adj) []int {
	ids := append(slices.Clone(noIds), 1, 2, 1000000)
	for i, a := range l {
		// A few rows stand for all of a large column.
		if i < 20 || i > len(l)-10 {
			ids = append(ids, a.From-1, a.From, a.From+1, a.To, a.Edge)
		}
	}
	slices.Sort(ids)
	return slices.Compact(ids)
}

// rowIs fails if the row of id in c and its length are not those of the entries of l that lead from id.
func rowIs(t *testing.T, c api.Column, id int, l []api.Adj) {
	t.Helper()
	var want []api.Adj
	for _, a := range l {
		if a.From == id {
			want = append(want, a)
		}
	}
	got := column.Row(c, id)
	if !slices.Equal(got, want) {
		t.Errorf("Row(%s, %d) = %s, want %s", brief(c), id, brief(got), brief(want))
	}
	spoil(got, api.Adj{From: -1, To: -1, Edge: -1})
	if n := column.Degree(c, id); n != len(want) {
		t.Errorf("Degree(%s, %d) = %d, want %d", brief(c), id, n, len(want))
	}
}

// isRejected fails if c is valid, or if a function returns anything for it, or if c changes.
func isRejected(t *testing.T, what string, c api.Column) {
	t.Helper()
	untouched(t, arguments{c: c}, func(x arguments) {
		if column.Valid(x.c) {
			t.Errorf("%s: Valid(%s) = true", what, brief(c))
		}
		if l := column.Entries(x.c); len(l) > 0 {
			t.Errorf("%s: Entries(%s) = %s", what, brief(c), brief(l))
		}
		if b := column.Encode(x.c); len(b) > 0 {
			t.Errorf("%s: Encode(%s) = % x", what, brief(c), b)
		}
		for _, id := range slices.Concat(x.c.Nodes, x.c.To, noIds, []int{1, 2, 3, 1000000}) {
			l, n := column.Row(x.c, id), column.Degree(x.c, id)
			if len(l) > 0 || n != 0 {
				t.Errorf("%s: Row(%s, %d) = %s, and Degree = %d", what, brief(c), id, brief(l), n)
			}
		}
	})
}
