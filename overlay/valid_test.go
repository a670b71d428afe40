package overlay_test

import (
	"graphdb/api"
	"graphdb/overlay"
	"math/rand"
	"slices"
	"testing"
)

// invalidColumns returns columns that are not valid, each for another reason.
func invalidColumns() map[string]api.Column {
	return map[string]api.Column{
		"a node without a row":       {Nodes: []int{1}},
		"a node that is no id":       col("0", "0 1", "1", "1"),
		"a To that is no id":         col("1", "0 1", "1000001", "1"),
		"an Edge that is no id":      col("1", "0 1", "1", "0"),
		"decreasing nodes":           col("2 1", "0 1 2", "1 1", "1 2"),
		"First [1]":                  col("", "1", "", ""),
		"First without its end":      col("1", "0", "1", "1"),
		"First that is too long":     col("1", "0 1 2", "1 2", "1 2"),
		"an empty row":               col("1 2", "0 1 1", "1", "1"),
		"an Edge too few":            col("1", "0 1", "1", ""),
		"a row out of order":         col("1", "0 2", "2 1", "1 2"),
		"an edge twice":              col("1", "0 2", "1 2", "1 1"),
		"an edge twice in two rows":  col("1 2", "0 1 2", "1 2", "1 1"),
		"the sample without an edge": {Nodes: sampleColumn().Nodes, First: sampleColumn().First, To: sampleColumn().To, Edge: sampleColumn().Edge[:7]},
	}
}

// P13.1, P13.5, P13.6: overlays of the chapter's column, and the sample.
func TestValidOverlays(t *testing.T) {
	readsAs(t, over(chapter(), "", ""), adjs("1 2 5, 1 3 4"))
	readsAs(t, over(chapter(), "1 1 9", "5"), adjs("1 1 9, 1 3 4"))
	readsAs(t, over(chapter(), "1 1 9", ""), adjs("1 1 9, 1 2 5, 1 3 4"))
	readsAs(t, over(chapter(), "", "4 5"), nil)
	readsAs(t, over(chapter(), "2 1 5", "5"), adjs("1 3 4, 2 1 5"))
	readsAs(t, over(sampleColumn(), "", ""), adjs("1 1 20, 1 3 4, 1 3 9, 2 1 8, 5 1 30, 5 5 2, 5 5 3, 5 9 1"))
	readsAs(t, over(sampleColumn(), "", "1 2 3 4 8 9 20 30"), nil)
	readsAs(t, sample(), sampleEntries())
}

// P13.1, P13.5, P13.6: the empty overlay, with First of its column empty and with First [0], and what is inserted into it.
func TestEmptyOverlays(t *testing.T) {
	for _, c := range []api.Column{{}, {Nodes: []int{}, First: []int{}, To: []int{}, Edge: []int{}}, {First: []int{0}}, {Nodes: []int{}, First: []int{0}, To: []int{}, Edge: []int{}}} {
		readsAs(t, api.Overlay{Base: c}, nil)
		readsAs(t, api.Overlay{Base: c, Adds: []api.Adj{}, Dels: []int{}}, nil)
		readsAs(t, over(c, "1 1 1", ""), adjs("1 1 1"))
		readsAs(t, over(c, "1 1 2, 1 2 1, 3 1 3", ""), adjs("1 1 2, 1 2 1, 3 1 3"))
		isRejected(t, "an edge deleted", over(c, "", "1"))
		isRejected(t, "an inserted edge deleted", over(c, "1 1 1", "1"))
		isRejected(t, "no id inserted", over(c, "0 0 0", ""))
	}
}

// P13.1: columns that are not valid, with nothing else, and with insertions and deletions.
func TestInvalidBase(t *testing.T) {
	for what, c := range invalidColumns() {
		for _, adds := range []string{"", "7 7 77", "7 7 77, 8 8 88"} {
			for _, dels := range []string{"", "1", "1 2", "77"} {
				isRejected(t, what, over(c, adds, dels))
			}
		}
	}
}

// P13.1: insertions of which two are equal or decrease, at each place, and by From, To or Edge alone.
func TestOrderOfAdds(t *testing.T) {
	for i := 1; i < len(sample().Adds); i++ {
		isRejected(t, "equal Adds", sampleWith(func(o *api.Overlay) { o.Adds[i] = o.Adds[i-1] }))
		isRejected(t, "equal Adds", sampleWith(func(o *api.Overlay) { o.Adds = slices.Insert(o.Adds, i, o.Adds[i]) }))
		isRejected(t, "decreasing Adds", sampleWith(func(o *api.Overlay) { o.Adds[i-1], o.Adds[i] = o.Adds[i], o.Adds[i-1] }))
		for j := range i {
			isRejected(t, "an insertion behind its place", sampleWith(func(o *api.Overlay) {
				o.Adds = slices.Insert(o.Adds, i+1, o.Adds[j])
				o.Adds = slices.Delete(o.Adds, j, j+1)
			}))
		}
	}
	for _, c := range []api.Column{{}, chapter()} {
		for _, adds := range []string{
			"2 1 1, 1 1 2", "2 1 2, 1 1 1", "2 1 1, 1 2 2", "2 2 2, 1 1 1", "2 2 1, 1 3 3",
			"1 2 1, 1 1 2", "1 2 2, 1 1 1", "1 10 1, 1 9 2",
			"1 1 2, 1 1 1", "1 1 100, 1 1 20", "1 1 1, 1 1 3, 1 1 2", "1 1 2, 1 1 1, 1 1 3",
			"1 1 1, 1 1 1", "1 1 1, 2 1 2, 2 1 2",
		} {
			isRejected(t, "Adds that are not increasing", over(c, adds, ""))
		}
		for _, adds := range []string{"1 1 2, 2 1 1", "1 2 2, 2 1 1", "1 1 2, 1 2 1", "1 1 1, 1 1 2, 1 1 3", "1 9 3, 1 10 2, 2 8 1", "9 1 1, 10 1 2, 100 1 3"} {
			if o := over(c, adds, ""); !overlay.Valid(o) || !isValid(o) {
				t.Errorf("Valid(%+v) = false", o)
			}
		}
	}
}

// P13.1: deletions of which two are equal or decrease, at each place.
func TestOrderOfDels(t *testing.T) {
	all := numbers("1 2 3 4 8 9 20 30")
	for i := 1; i < len(all); i++ {
		for _, edit := range []func(l []int) []int{
			func(l []int) []int { l[i] = l[i-1]; return l },
			func(l []int) []int { l[i-1] = l[i]; return l },
			func(l []int) []int { l[i-1], l[i] = l[i], l[i-1]; return l },
			func(l []int) []int { return slices.Insert(l, i, l[i]) },
			func(l []int) []int { return append(l, l[i]) },
		} {
			isRejected(t, "Dels that are not increasing", api.Overlay{Base: sampleColumn(), Dels: edit(slices.Clone(all))})
		}
		isRejected(t, "two equal Dels", api.Overlay{Base: sampleColumn(), Dels: []int{all[i], all[i]}})
		isRejected(t, "two decreasing Dels", api.Overlay{Base: sampleColumn(), Dels: []int{all[i], all[i-1]}})
		// Without the insertions that depend on them.
		readsAs(t, api.Overlay{Base: sampleColumn(), Dels: all[i-1 : i+1]}, members(api.Overlay{Base: sampleColumn(), Dels: all[i-1 : i+1]}))
	}
	isRejected(t, "equal Dels in the order of the column", over(chapter(), "", "5 4"))
}

// field returns where From, To or Edge of a, by number, is.
func field(a *api.Adj, number int) *int {
	return []*int{&a.From, &a.To, &a.Edge}[number]
}

// P13.1: ids at the ends of their range, and others, in From, To and Edge of insertions.
func TestIdsOfAdds(t *testing.T) {
	for number := range 3 {
		for _, c := range []api.Column{{}, chapter(), sampleColumn()} {
			for _, id := range noIds {
				a := adj("7 7 77")
				*field(&a, number) = id
				isRejected(t, "no id", api.Overlay{Base: c, Adds: []api.Adj{a}})
			}
			for _, id := range []int{1000000, 999999, 31, 6} {
				a := adj("7 7 77")
				*field(&a, number) = id
				readsAs(t, api.Overlay{Base: c, Adds: []api.Adj{a}}, sorted(append(members(api.Overlay{Base: c}), a)))
			}
		}
		for at := range sample().Adds {
			for _, id := range append(slices.Clone(noIds), 1, 2, 5, 6, 1000000) {
				asDefined(t, sampleWith(func(o *api.Overlay) { *field(&o.Adds[at], number) = id }))
			}
		}
	}
	readsAs(t, over(api.Column{}, "1 1 1, 1 1 1000000, 1 1000000 2, 1000000 1 3, 1000000 1000000 999999", ""), adjs("1 1 1, 1 1 1000000, 1 1000000 2, 1000000 1 3, 1000000 1000000 999999"))
	// In order, and out of range only at one end.
	for _, adds := range []string{"0 1 1, 1 1 2", "1 0 1, 1 1 2", "1 1 0, 1 1 1", "-1 1 1, 1 1 2", "1 1 1, 1000001 1 2", "1 1 1, 1 1000001 2", "1 1 1, 1 1 1000001", "1 1 1, 2 0 2, 3 1 3", "1 1 1, 2 1000001 2, 3 1 3"} {
		isRejected(t, "no id", over(api.Column{}, adds, ""))
		isRejected(t, "no id", over(col("9", "0 1", "9", "9"), adds, "9"))
	}
}

// P13.1: each integer in its place among the deletions is an edge of the column, or the overlay is not valid.
func TestDelsAreEdges(t *testing.T) {
	edges := sampleColumn().Edge
	for _, edge := range append(slices.Clone(noIds), numbers("1 2 3 4 5 6 7 8 9 10 19 20 21 29 30 31 25 40 41 50 999999 1000000")...) {
		o := api.Overlay{Base: sampleColumn(), Adds: adjs("1 2 25"), Dels: []int{edge}}
		if slices.Contains(edges, edge) {
			readsAs(t, o, sorted(members(o)))
		} else {
			isRejected(t, "a deletion that is no edge", o)
		}
		// The same among others.
		asDefined(t, sampleWith(func(o *api.Overlay) {
			o.Dels = append(o.Dels, edge)
			slices.Sort(o.Dels)
		}))
		for at := range sample().Dels {
			asDefined(t, sampleWith(func(o *api.Overlay) { o.Dels[at] = edge }))
		}
	}
	isRejected(t, "an edge of no column", over(chapter(), "", "7"))
	isRejected(t, "a node of the column", over(chapter(), "", "1"))
	isRejected(t, "an edge of an insertion", over(chapter(), "1 1 9", "9"))
	isRejected(t, "more deletions than edges", over(chapter(), "", "4 5 6"))
}

// P13.1: an edge that the column and an insertion have must be deleted, whether the insertion has the nodes of the column's entry or others.
func TestEdgesOfBaseInAdds(t *testing.T) {
	for _, entry := range members(over(sampleColumn(), "", "")) {
		for _, a := range []api.Adj{entry, {From: entry.From, To: 7, Edge: entry.Edge}, {From: 7, To: entry.To, Edge: entry.Edge}, {From: 1, To: 1, Edge: entry.Edge}, {From: 1000000, To: 1000000, Edge: entry.Edge}} {
			o := api.Overlay{Base: sampleColumn(), Adds: []api.Adj{a}}
			isRejected(t, "an edge of the column inserted", o)
			for _, edge := range sampleColumn().Edge {
				o.Dels = []int{edge}
				if edge == entry.Edge {
					readsAs(t, o, sorted(append(without(members(over(sampleColumn(), "", "")), entry), a)))
				} else {
					isRejected(t, "another edge deleted", o)
				}
			}
		}
	}
}

// P13.1: two insertions with the same edge, beside each other and not, whether the column has it or not.
func TestEdgesTwiceInAdds(t *testing.T) {
	for i := range sample().Adds {
		for j := range sample().Adds {
			if i != j {
				isRejected(t, "an edge inserted twice", sampleWith(func(o *api.Overlay) { o.Adds[i].Edge = o.Adds[j].Edge }))
			}
		}
	}
	isRejected(t, "an edge inserted twice", over(api.Column{}, "1 1 7, 2 2 7", ""))
	isRejected(t, "an edge inserted twice", over(api.Column{}, "1 1 7, 1 2 8, 2 2 7", ""))
	isRejected(t, "a deleted edge inserted twice", over(chapter(), "1 1 5, 2 2 5", "5"))
	isRejected(t, "a deleted edge inserted twice, once as it was", over(chapter(), "1 2 5, 2 2 5", "5"))
	// Nodes and edges may have the same ids, and ends may come twice.
	readsAs(t, over(api.Column{}, "7 7 7, 7 7 8", ""), adjs("7 7 7, 7 7 8"))
}

// lists calls visit with all lists of at most most elements of l.
func lists[T any](most int, l []T, visit func(l []T)) {
	var longer func(part []T)
	longer = func(part []T) {
		visit(part)
		if len(part) == most {
			return
		}
		for _, x := range l {
			longer(append(slices.Clone(part), x))
		}
	}
	longer(nil)
}

// P13.1, P13.3 to P13.6: all overlays of a few columns with at most two insertions and two deletions of small ids, and all that can be inserted into and deleted from those which are valid.
func TestSmallOverlays(t *testing.T) {
	var small []api.Adj
	for from := range 3 {
		for to := range 3 {
			for edge := range 4 {
				small = append(small, api.Adj{From: from, To: to, Edge: edge})
			}
		}
	}
	valid, invalid := 0, 0
	for _, c := range []api.Column{{}, col("", "0", "", ""), col("1", "0 1", "2", "1"), col("1", "0 2", "1 2", "2 1"), col("1 2", "0 1 2", "2 1", "1 3"), col("1", "0 2", "1 2", "1 1")} {
		lists(2, small, func(adds []api.Adj) {
			lists(2, []int{0, 1, 2, 3}, func(dels []int) {
				o := api.Overlay{Base: c, Adds: adds, Dels: dels}
				if got := overlay.Valid(o); got != isValid(o) {
					t.Errorf("Valid(%+v) = %v", o, got)
				}
				if !isValid(o) {
					invalid++
					return
				}
				valid++
				asDefined(t, o)
				for _, a := range small {
					insertsAsDefined(t, o, a)
				}
				for edge := -1; edge < 5; edge++ {
					deletesAsDefined(t, o, edge)
				}
			})
		})
	}
	// If n of the three edges are free, which means deleted or not in the column, there are 1+4*n lists of at most one insertion and 16*n*(n-1)/2 of two.
	of := func(n int) int { return 1 + 4*n + 16*n*(n-1)/2 }
	if valid != 2*of(3)+of(2)+of(3)+2*(of(1)+2*of(2)+of(3)) || invalid < 100000 {
		t.Errorf("%d overlays are valid, and %d are not", valid, invalid)
	}
}

// P13.1, P13.3 to P13.6: pseudorandom overlays, as they are and disturbed, by their definitions.
func TestAnyOverlay(t *testing.T) {
	source := rand.New(rand.NewSource(131))
	valid := 0
	for i := range 12000 {
		o := someOverlay(source)
		for range i % 3 {
			o = disturbed(source, o)
		}
		if isValid(o) {
			valid++
		}
		asDefined(t, o)
		for range 3 {
			insertsAsDefined(t, o, someAdj(source, someNumber(source, o)))
			deletesAsDefined(t, o, someNumber(source, o))
		}
		for _, a := range members(api.Overlay{Base: o.Base}) {
			insertsAsDefined(t, o, a)
		}
	}
	if valid < 5000 || valid > 9000 {
		t.Errorf("%d of 12000 overlays are valid", valid)
	}
}
