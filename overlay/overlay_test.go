package overlay_test

import (
	"fmt"
	"graphdb/api"
	"graphdb/overlay"
	"math"
	"reflect"
	"slices"
	"strconv"
	"strings"
	"testing"
)

// noIds holds integers that are no ids: those beside the range of ids, and those that would be in it if some of their bits were lost.
var noIds = []int{0, -1, 1000001, 1000002, -1000000, 1<<32 + 1, -1 << 32, math.MinInt, math.MinInt + 1, math.MaxInt - 1, math.MaxInt}

// numbers returns the integers that blanks separate in text.
func numbers(text string) []int {
	var l []int
	for _, word := range strings.Fields(text) {
		n, err := strconv.Atoi(word)
		if err != nil {
			panic(err)
		}
		l = append(l, n)
	}
	return l
}

// adjs returns the entries that commas separate in text, each as its From, To and Edge.
func adjs(text string) []api.Adj {
	var l []api.Adj
	for _, part := range strings.Split(text, ",") {
		if n := numbers(part); len(n) > 0 {
			l = append(l, api.Adj{From: n[0], To: n[1], Edge: n[2]})
		}
	}
	return l
}

// adj returns the entry that text describes.
func adj(text string) api.Adj {
	return adjs(text)[0]
}

// col returns the column with these lists.
func col(nodes, first, to, edge string) api.Column {
	return api.Column{Nodes: numbers(nodes), First: numbers(first), To: numbers(to), Edge: numbers(edge)}
}

// over returns the overlay with these lists.
func over(c api.Column, adds, dels string) api.Overlay {
	return api.Overlay{Base: c, Adds: adjs(adds), Dels: numbers(dels)}
}

// chapter returns the column of the chapter's examples.
func chapter() api.Column {
	return col("1", "0 2", "2 3", "5 4")
}

// sampleColumn returns the column with the entries 1 1 20, 1 3 4, 1 3 9, 2 1 8, 5 1 30, 5 5 2, 5 5 3 and 5 9 1.
func sampleColumn() api.Column {
	return col("1 2 5", "0 3 4 8", "1 3 3 1 1 5 5 9", "20 4 9 8 30 2 3 1")
}

// sample returns an overlay of which some nodes have entries of the column, some have inserted ones, some both, and one has none any more (2). Edge 3 was deleted and inserted between other nodes.
func sample() api.Overlay {
	return over(sampleColumn(), "1 2 25, 1 3 6, 1 4 3, 4 1 40, 5 1 29, 5 5 50, 9 9 41", "3 8 20")
}

// sampleEntries returns the entries of the sample.
func sampleEntries() []api.Adj {
	return adjs("1 2 25, 1 3 4, 1 3 6, 1 3 9, 1 4 3, 4 1 40, 5 1 29, 5 1 30, 5 5 2, 5 5 50, 5 9 1, 9 9 41")
}

// sampleWith returns the sample as edit leaves it.
func sampleWith(edit func(o *api.Overlay)) api.Overlay {
	o := sample()
	edit(&o)
	return o
}

// guarded returns a copy of l with one more element in the capacity behind its last one.
func guarded[T any](l []T) []T {
	var guard T
	if len(l) > 0 {
		guard = l[0]
	}
	return slices.Concat(l, []T{guard})[:len(l)]
}

// whole returns a copy of l that has all of the capacity of l as its length.
func whole[T any](l []T) []T {
	return slices.Clone(l[:cap(l)])
}

// guard returns a copy of o that shares no slice with it and has guarded slices.
func guard(o api.Overlay) api.Overlay {
	c := o.Base
	c = api.Column{Nodes: guarded(c.Nodes), First: guarded(c.First), To: guarded(c.To), Edge: guarded(c.Edge)}
	return api.Overlay{Base: c, Adds: guarded(o.Adds), Dels: guarded(o.Dels)}
}

// reveal returns o with the capacity of its slices as their length, so that what stands behind their ends counts.
func reveal(o api.Overlay) api.Overlay {
	c := o.Base
	c = api.Column{Nodes: whole(c.Nodes), First: whole(c.First), To: whole(c.To), Edge: whole(c.Edge)}
	return api.Overlay{Base: c, Adds: whole(o.Adds), Dels: whole(o.Dels)}
}

// untouched calls call with a copy of o, and fails if the call changes anything in it or behind it.
func untouched(t *testing.T, o api.Overlay, call func(o api.Overlay)) {
	t.Helper()
	// Two copies made in the same way are equal as long as nothing changes one of them.
	given, kept := guard(o), guard(o)
	call(given)
	if !reflect.DeepEqual(reveal(given), reveal(kept)) {
		t.Errorf("the arguments %s became %s", brief(kept), brief(given))
	}
}

// spoil overwrites l and the capacity behind it. If l shares memory with something else, this changes as well.
func spoil[T any](l []T, with T) {
	for i := range l[:cap(l)] {
		l[:cap(l)][i] = with
	}
}

// spoilEntries overwrites the entries of l and the capacity behind them.
func spoilEntries(l []api.Adj) {
	spoil(l, api.Adj{From: -7, To: -7, Edge: -7})
}

// spoilOverlay overwrites the lists of o and the capacity behind them, and fails if two of them share memory.
func spoilOverlay(t *testing.T, o api.Overlay) {
	t.Helper()
	c := o.Base
	lists := [][]int{c.Nodes, c.First, c.To, c.Edge, o.Dels}
	for i, l := range lists {
		spoil(l, -i)
	}
	spoilEntries(o.Adds)
	for i, l := range lists {
		for _, n := range whole(l) {
			if n != -i {
				t.Fatalf("two lists of one overlay share memory")
			}
		}
	}
}

// sameColumn reports whether the lists of a and b are equal.
func sameColumn(a, b api.Column) bool {
	return slices.Equal(a.Nodes, b.Nodes) && slices.Equal(a.First, b.First) && slices.Equal(a.To, b.To) && slices.Equal(a.Edge, b.Edge)
}

// same reports whether the lists of a and b are equal.
func same(a, b api.Overlay) bool {
	return sameColumn(a.Base, b.Base) && slices.Equal(a.Adds, b.Adds) && slices.Equal(a.Dels, b.Dels)
}

// brief returns a text for x, the beginning of it if it is long.
func brief(x any) string {
	text := fmt.Sprintf("%+v", x)
	if len(text) > 2000 {
		return text[:2000] + ".."
	}
	return text
}

// overlayIs fails if o and e, what call returned, are not want and err, or if o is not valid. With an error o must be empty. It overwrites o.
func overlayIs(t *testing.T, call func() string, o api.Overlay, e api.Errno, want api.Overlay, err api.Errno) {
	t.Helper()
	if e != err || !same(o, want) {
		t.Errorf("%s = %s, %d, want %s, %d", call(), brief(o), e, brief(want), err)
	}
	if !overlay.Valid(o) {
		t.Errorf("%s = %s, which is not valid", call(), brief(o))
	}
	spoilOverlay(t, o)
}

// newIs fails if New of c is not the overlay of c or err, or if c changes.
func newIs(t *testing.T, c api.Column, err api.Errno) {
	t.Helper()
	want := api.Overlay{Base: c}
	if err != api.OK {
		want = api.Overlay{}
	}
	untouched(t, api.Overlay{Base: c}, func(x api.Overlay) {
		o, e := overlay.New(x.Base)
		overlayIs(t, func() string { return "New(" + brief(c) + ")" }, o, e, want, err)
	})
}

// insertIs fails if Insert of a into o is not want and err, or if o changes.
func insertIs(t *testing.T, o api.Overlay, a api.Adj, want api.Overlay, err api.Errno) {
	t.Helper()
	untouched(t, o, func(x api.Overlay) {
		r, e := overlay.Insert(x, a)
		overlayIs(t, func() string { return fmt.Sprintf("Insert(%s, %v)", brief(o), a) }, r, e, want, err)
	})
}

// deleteIs fails if Delete of edge from o is not want and err, or if o changes.
func deleteIs(t *testing.T, o api.Overlay, edge int, want api.Overlay, err api.Errno) {
	t.Helper()
	untouched(t, o, func(x api.Overlay) {
		r, e := overlay.Delete(x, edge)
		overlayIs(t, func() string { return fmt.Sprintf("Delete(%s, %d)", brief(o), edge) }, r, e, want, err)
	})
}

// readsAs fails if o is not valid, if its entries, its rows or its compacted column are not those of l, or if o changes.
func readsAs(t *testing.T, o api.Overlay, l []api.Adj) {
	t.Helper()
	untouched(t, o, func(x api.Overlay) {
		if !overlay.Valid(x) {
			t.Errorf("Valid(%s) = false", brief(o))
		}
		all := overlay.Entries(x)
		if !slices.Equal(all, l) {
			t.Errorf("Entries(%s) = %s, want %s", brief(o), brief(all), brief(l))
		}
		spoilEntries(all)
		for _, id := range askedFor(o, l) {
			rowIs(t, x, id, l)
		}
		c, e := overlay.Compact(x)
		if want := ordered(l); e != api.OK || !sameColumn(c, want) {
			t.Errorf("Compact(%s) = %s, %d, want %s", brief(o), brief(c), e, brief(want))
		}
		spoilOverlay(t, api.Overlay{Base: c})
	})
}

// askedFor returns, each once, ids that the entries of o.Base and of l lead from, those beside them, and integers that are no ids.
func askedFor(o api.Overlay, l []api.Adj) []int {
	ids := append(slices.Clone(noIds), 1, 2, 1000000)
	for i, id := range o.Base.Nodes {
		if i < 20 {
			ids = append(ids, id)
		}
	}
	for i, a := range l {
		// A few rows stand for all of a large overlay.
		if i < 20 || i > len(l)-10 {
			ids = append(ids, a.From-1, a.From, a.From+1, a.To, a.Edge)
		}
	}
	slices.Sort(ids)
	return slices.Compact(ids)
}

// rowIs fails if the row of id in o is not that of the entries of l that lead from id.
func rowIs(t *testing.T, o api.Overlay, id int, l []api.Adj) {
	t.Helper()
	var want []api.Adj
	for _, a := range l {
		if a.From == id {
			want = append(want, a)
		}
	}
	got := overlay.Row(o, id)
	if !slices.Equal(got, want) {
		t.Errorf("Row(%s, %d) = %s, want %s", brief(o), id, brief(got), brief(want))
	}
	spoilEntries(got)
}

// isRejected fails if o is valid, if a function does not say so, or if o changes.
func isRejected(t *testing.T, what string, o api.Overlay) {
	t.Helper()
	untouched(t, o, func(x api.Overlay) {
		if overlay.Valid(x) {
			t.Errorf("%s: Valid(%s) = true", what, brief(o))
		}
		if l := overlay.Entries(x); l != nil {
			t.Errorf("%s: Entries(%s) = %s", what, brief(o), brief(l))
		}
		ids := slices.Concat(x.Base.Nodes, x.Base.Edge, x.Dels, noIds, []int{1, 2, 1000000})
		for _, a := range x.Adds {
			ids = append(ids, a.From, a.Edge)
		}
		for _, id := range ids {
			if l := overlay.Row(x, id); l != nil {
				t.Errorf("%s: Row(%s, %d) = %s", what, brief(o), id, brief(l))
			}
			if r, e := overlay.Delete(x, id); e != api.ErrState || !same(r, api.Overlay{}) {
				t.Errorf("%s: Delete(%s, %d) = %s, %d", what, brief(o), id, brief(r), e)
			}
		}
		if c, e := overlay.Compact(x); e != api.ErrState || !sameColumn(c, api.Column{}) {
			t.Errorf("%s: Compact(%s) = %s, %d", what, brief(o), brief(c), e)
		}
		// Entries that could be inserted, entries with integers that are no ids, and entries whose edge may be there.
		for _, a := range append(adjs("1 1 999999, 1000000 1000000 1000000, 0 0 0, 1 1 1000001, 1 1 0, 1 3 20, 5 5 3"), x.Adds...) {
			if r, e := overlay.Insert(x, a); e != api.ErrState || !same(r, api.Overlay{}) {
				t.Errorf("%s: Insert(%s, %v) = %s, %d", what, brief(o), a, brief(r), e)
			}
		}
	})
}
