package overlay_test

import (
	"graphdb/api"
	"graphdb/overlay"
	"slices"
	"testing"
)

// P13.5, P13.6: an entry of the column beside inserted ones of the same node, in every order of To and Edge.
func TestEntriesOfOneNode(t *testing.T) {
	c := col("4", "0 1", "7", "50")
	for _, to := range []int{6, 7, 8} {
		for _, edge := range []int{49, 51} {
			a := api.Adj{From: 4, To: to, Edge: edge}
			o := api.Overlay{Base: c, Adds: []api.Adj{a}}
			first := to < 7 || to == 7 && edge < 50
			if first {
				readsAs(t, o, []api.Adj{a, adj("4 7 50")})
			} else {
				readsAs(t, o, []api.Adj{adj("4 7 50"), a})
			}
			o.Dels = []int{50}
			readsAs(t, o, []api.Adj{a})
		}
	}
	// Two of each, in every way in which they can stand.
	orders(adjs("4 7 1, 4 7 2, 4 8 9, 4 9 3"), func(l []api.Adj) {
		o := api.Overlay{Base: ordered(sorted(l[:2])), Adds: sorted(l[2:])}
		readsAs(t, o, adjs("4 7 1, 4 7 2, 4 8 9, 4 9 3"))
		o.Dels = []int{l[0].Edge}
		readsAs(t, o, sorted(l[1:]))
	})
}

// P13.5, P13.6: entries of different nodes, the smaller one in the column or inserted.
func TestEntriesOfNodes(t *testing.T) {
	readsAs(t, over(col("1", "0 1", "1", "9"), "2 1 8", ""), adjs("1 1 9, 2 1 8"))
	readsAs(t, over(col("2", "0 1", "1", "8"), "1 1 9", ""), adjs("1 1 9, 2 1 8"))
	readsAs(t, over(col("10", "0 1", "1", "8"), "9 1 9, 100 1 7", ""), adjs("9 1 9, 10 1 8, 100 1 7"))
	readsAs(t, over(col("2 4", "0 1 2", "2 4", "2 4"), "1 1 1, 3 3 3, 5 5 5", ""), adjs("1 1 1, 2 2 2, 3 3 3, 4 4 4, 5 5 5"))
	readsAs(t, over(col("2 4", "0 1 2", "2 4", "2 4"), "1 1 1, 3 3 3, 5 5 5", "2"), adjs("1 1 1, 3 3 3, 4 4 4, 5 5 5"))
	readsAs(t, over(col("2 4", "0 1 2", "2 4", "2 4"), "1 1 1, 3 3 3, 5 5 5", "4"), adjs("1 1 1, 2 2 2, 3 3 3, 5 5 5"))
	readsAs(t, over(col("2 4", "0 1 2", "2 4", "2 4"), "1 1 1, 3 3 3, 5 5 5", "2 4"), adjs("1 1 1, 3 3 3, 5 5 5"))
	// Both nodes exchange their edges.
	readsAs(t, over(col("2 4", "0 1 2", "2 4", "2 4"), "2 2 4, 4 4 2", "2 4"), adjs("2 2 4, 4 4 2"))
}

// P13.5: the rows of the sample, of nodes that the column, the insertions, both or neither have.
func TestRow(t *testing.T) {
	for id, want := range map[int]string{
		1: "1 2 25, 1 3 4, 1 3 6, 1 3 9, 1 4 3",
		2: "",
		3: "",
		4: "4 1 40",
		5: "5 1 29, 5 1 30, 5 5 2, 5 5 50, 5 9 1",
		6: "",
		8: "",
		9: "9 9 41", 10: "", 20: "", 1000000: "",
	} {
		if l := overlay.Row(sample(), id); !slices.Equal(l, adjs(want)) {
			t.Errorf("Row(.., %d) = %v, want %s", id, l, want)
		}
	}
	for _, id := range noIds {
		if l := overlay.Row(sample(), id); len(l) > 0 {
			t.Errorf("Row(.., %d) = %v", id, l)
		}
	}
}

// P13.6: the columns of the sample and of the chapter's overlays.
func TestCompact(t *testing.T) {
	for _, c := range []struct {
		o    api.Overlay
		want api.Column
	}{
		{sample(), col("1 4 5 9", "0 5 6 11 12", "2 3 3 3 4 1 1 1 5 5 9 9", "25 4 6 9 3 40 29 30 2 50 1 41")},
		{over(chapter(), "", ""), chapter()},
		{over(chapter(), "1 1 9", "5"), col("1", "0 2", "1 3", "9 4")},
		{over(chapter(), "", "4"), col("1", "0 1", "2", "5")},
		{over(chapter(), "2 1 5", "5"), col("1 2", "0 1 2", "3 1", "4 5")},
		{over(sampleColumn(), "", ""), sampleColumn()},
		// Nothing remains, and then First is empty.
		{over(chapter(), "", "4 5"), api.Column{}},
		{over(sampleColumn(), "", "1 2 3 4 8 9 20 30"), api.Column{}},
		{api.Overlay{}, api.Column{}},
		{api.Overlay{Base: col("", "0", "", "")}, api.Column{}},
		{over(col("", "0", "", ""), "3 2 1", ""), col("3", "0 1", "2", "1")},
		{over(chapter(), "9 9 9", "4 5"), col("9", "0 1", "9", "9")},
	} {
		untouched(t, c.o, func(x api.Overlay) {
			if got, err := overlay.Compact(x); err != api.OK || !sameColumn(got, c.want) {
				t.Errorf("Compact(%+v) = %+v, %d, want %+v", c.o, got, err, c.want)
			}
		})
	}
}

// large returns an overlay with far more entries, insertions and deletions than a graph has edges, and its entries.
func large() (api.Overlay, []api.Adj) {
	const n = 30000
	var l, base []api.Adj
	var o api.Overlay
	for i := range n {
		a := api.Adj{From: i/7 + 1, To: i%7 + 1, Edge: i*7919%1000000 + 1}
		switch i % 3 {
		case 0:
			base = append(base, a)
		case 1:
			o.Adds = append(o.Adds, a)
		case 2:
			// This edge was between other nodes.
			base = append(base, api.Adj{From: a.From, To: a.To + 7, Edge: a.Edge})
			o.Dels = append(o.Dels, a.Edge)
			if i%2 == 0 {
				continue
			}
			o.Adds = append(o.Adds, a)
		}
		l = append(l, a)
	}
	slices.SortFunc(base, func(a, b api.Adj) int {
		if before(a, b) {
			return -1
		}
		return 1
	})
	for i, a := range base {
		if i == 0 || base[i-1].From != a.From {
			o.Base.Nodes, o.Base.First = append(o.Base.Nodes, a.From), append(o.Base.First, i)
		}
		o.Base.To, o.Base.Edge = append(o.Base.To, a.To), append(o.Base.Edge, a.Edge)
	}
	o.Base.First = append(o.Base.First, len(base))
	slices.Sort(o.Dels)
	return o, l
}

// P13.1, P13.3 to P13.6: an overlay with far more entries than a graph can have.
func TestLargeOverlay(t *testing.T) {
	o, l := large()
	if len(o.Dels) < 5000 || len(o.Adds) < 10000 || len(l) < 20000 {
		t.Fatalf("%d deletions, %d insertions and %d entries", len(o.Dels), len(o.Adds), len(l))
	}
	readsAs(t, o, l)
	a := api.Adj{From: 5, To: 5, Edge: 1000000}
	at := slices.IndexFunc(o.Adds, func(b api.Adj) bool { return before(a, b) })
	more := api.Overlay{Base: o.Base, Adds: slices.Insert(slices.Clone(o.Adds), at, a), Dels: o.Dels}
	insertIs(t, o, a, more, api.OK)
	deleteIs(t, more, a.Edge, o, api.OK)
	insertIs(t, more, api.Adj{From: 6, To: 6, Edge: 1000000}, api.Overlay{}, api.ErrTwice)
	edge := l[0].Edge
	at, _ = slices.BinarySearch(o.Dels, edge)
	less := api.Overlay{Base: o.Base, Adds: o.Adds, Dels: slices.Insert(slices.Clone(o.Dels), at, edge)}
	deleteIs(t, o, edge, less, api.OK)
	insertIs(t, less, l[0], o, api.OK)
	twice := api.Overlay{Base: o.Base, Adds: append(slices.Clone(o.Adds), api.Adj{From: 1000000, To: 1, Edge: edge}), Dels: o.Dels}
	if overlay.Valid(twice) || overlay.Entries(twice) != nil {
		t.Errorf("an edge of the column was inserted, and Valid(%s) = true", brief(twice))
	}
	deleteIs(t, twice, edge, api.Overlay{}, api.ErrState)
}
