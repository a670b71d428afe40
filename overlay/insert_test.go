package overlay_test

import (
	"graphdb/api"
	"math"
	"testing"
)

// P13.2: columns as they are given, the empty one with First empty and with First [0] among them.
func TestNew(t *testing.T) {
	for _, c := range []api.Column{
		{},
		{Nodes: []int{}, First: []int{}, To: []int{}, Edge: []int{}},
		col("", "0", "", ""),
		chapter(),
		sampleColumn(),
		col("1", "0 1", "1", "1"),
		col("1000000", "0 1", "1000000", "1000000"),
		col("1 1000000", "0 2 4", "1 1000000 1 1000000", "1000000 1 999999 2"),
	} {
		newIs(t, c, api.OK)
	}
}

// P13.2: columns that are not valid.
func TestNewInvalid(t *testing.T) {
	for _, c := range invalidColumns() {
		newIs(t, c, api.ErrArg)
	}
	for _, id := range noIds {
		newIs(t, api.Column{Nodes: []int{id}, First: []int{0, 1}, To: []int{1}, Edge: []int{1}}, api.ErrArg)
		newIs(t, api.Column{Nodes: []int{1}, First: []int{0, 1}, To: []int{id}, Edge: []int{1}}, api.ErrArg)
		newIs(t, api.Column{Nodes: []int{1}, First: []int{0, 1}, To: []int{1}, Edge: []int{id}}, api.ErrArg)
	}
}

// P13.3: the chapter's examples.
func TestInsertExamples(t *testing.T) {
	o := over(chapter(), "1 1 9", "5")
	insertIs(t, over(chapter(), "", "5"), adj("1 1 9"), o, api.OK)
	insertIs(t, o, adj("1 2 5"), over(chapter(), "1 1 9", ""), api.OK)
	insertIs(t, o, adj("2 2 4"), api.Overlay{}, api.ErrTwice)
}

// P13.3: entries before, between and behind those that are inserted already, with edges that are nowhere yet.
func TestInsertPlaces(t *testing.T) {
	for _, c := range []struct{ entry, adds string }{
		{"1 1 70", "1 1 70, 1 2 25, 1 3 6, 1 4 3, 4 1 40, 5 1 29, 5 5 50, 9 9 41"},
		{"1 2 24", "1 2 24, 1 2 25, 1 3 6, 1 4 3, 4 1 40, 5 1 29, 5 5 50, 9 9 41"},
		{"1 2 26", "1 2 25, 1 2 26, 1 3 6, 1 4 3, 4 1 40, 5 1 29, 5 5 50, 9 9 41"},
		{"1 3 5", "1 2 25, 1 3 5, 1 3 6, 1 4 3, 4 1 40, 5 1 29, 5 5 50, 9 9 41"},
		{"1 3 100", "1 2 25, 1 3 6, 1 3 100, 1 4 3, 4 1 40, 5 1 29, 5 5 50, 9 9 41"},
		{"1 10 5", "1 2 25, 1 3 6, 1 4 3, 1 10 5, 4 1 40, 5 1 29, 5 5 50, 9 9 41"},
		{"2 1 70", "1 2 25, 1 3 6, 1 4 3, 2 1 70, 4 1 40, 5 1 29, 5 5 50, 9 9 41"},
		{"4 1 39", "1 2 25, 1 3 6, 1 4 3, 4 1 39, 4 1 40, 5 1 29, 5 5 50, 9 9 41"},
		{"5 4 70", "1 2 25, 1 3 6, 1 4 3, 4 1 40, 5 1 29, 5 4 70, 5 5 50, 9 9 41"},
		{"9 9 42", "1 2 25, 1 3 6, 1 4 3, 4 1 40, 5 1 29, 5 5 50, 9 9 41, 9 9 42"},
		{"10 1 5", "1 2 25, 1 3 6, 1 4 3, 4 1 40, 5 1 29, 5 5 50, 9 9 41, 10 1 5"},
	} {
		insertIs(t, sample(), adj(c.entry), over(sampleColumn(), c.adds, "3 8 20"), api.OK)
		insertsAsDefined(t, sample(), adj(c.entry))
	}
	// Beside an entry of the column that has the same nodes.
	insertIs(t, over(chapter(), "", ""), adj("1 2 6"), over(chapter(), "1 2 6", ""), api.OK)
	insertIs(t, over(chapter(), "", "5"), adj("1 2 6"), over(chapter(), "1 2 6", "5"), api.OK)
}

// P13.3: into the empty overlay, whose column stays as it is given.
func TestInsertIntoEmpty(t *testing.T) {
	for _, c := range []api.Column{{}, col("", "0", "", "")} {
		insertIs(t, api.Overlay{Base: c}, adj("1 2 3"), over(c, "1 2 3", ""), api.OK)
		insertIs(t, over(c, "1 2 3", ""), adj("1 2 2"), over(c, "1 2 2, 1 2 3", ""), api.OK)
		insertIs(t, over(c, "1 2 3", ""), adj("2 1 3"), api.Overlay{}, api.ErrTwice)
		insertIs(t, api.Overlay{Base: c}, api.Adj{}, api.Overlay{}, api.ErrArg)
	}
}

// P13.3: ids at the ends of their range, and others, in From, To and Edge.
func TestInsertIds(t *testing.T) {
	for _, o := range []api.Overlay{{}, over(chapter(), "1 1 9", "5"), sample()} {
		for number := range 3 {
			for _, id := range noIds {
				a := adj("7 7 77")
				*field(&a, number) = id
				insertIs(t, o, a, api.Overlay{}, api.ErrArg)
			}
			for _, id := range []int{1000000, 999999, 1, 2, 6} {
				a := adj("7 7 77")
				*field(&a, number) = id
				insertsAsDefined(t, o, a)
			}
		}
	}
	insertIs(t, api.Overlay{}, adj("1 1 1"), over(api.Column{}, "1 1 1", ""), api.OK)
	insertIs(t, api.Overlay{}, adj("1000000 1000000 1000000"), over(api.Column{}, "1000000 1000000 1000000", ""), api.OK)
	insertIs(t, over(chapter(), "", ""), adj("1 1000000 1"), over(chapter(), "1 1000000 1", ""), api.OK)
	insertIs(t, over(chapter(), "", ""), adj("1000000 1 1000000"), over(chapter(), "1000000 1 1000000", ""), api.OK)
	insertIs(t, api.Overlay{}, api.Adj{From: math.MinInt, To: math.MaxInt, Edge: math.MinInt}, api.Overlay{}, api.ErrArg)
}

// P13.3: the edge of each entry, with its nodes and with others.
func TestInsertTwice(t *testing.T) {
	for _, a := range sampleEntries() {
		for _, b := range []api.Adj{a, {From: a.To, To: a.From, Edge: a.Edge}, {From: 1, To: 1, Edge: a.Edge}, {From: 7, To: 7, Edge: a.Edge}, {From: 1000000, To: a.To, Edge: a.Edge}} {
			insertIs(t, sample(), b, api.Overlay{}, api.ErrTwice)
		}
	}
	// Edge 3 was deleted and is back between other nodes, so that its first entry cannot come back.
	insertIs(t, sample(), adj("5 5 3"), api.Overlay{}, api.ErrTwice)
	// An entry of the column that was deleted and inserted again as it was.
	insertIs(t, over(chapter(), "1 2 5", "5"), adj("1 2 5"), api.Overlay{}, api.ErrTwice)
	insertIs(t, over(chapter(), "1 2 5", "5"), adj("2 2 5"), api.Overlay{}, api.ErrTwice)
}

// P13.3: deleted entries of the column come back, at each place of the deletions; between other nodes they are inserted.
func TestInsertDeleted(t *testing.T) {
	o := sample()
	insertIs(t, o, adj("2 1 8"), over(sampleColumn(), "1 2 25, 1 3 6, 1 4 3, 4 1 40, 5 1 29, 5 5 50, 9 9 41", "3 20"), api.OK)
	insertIs(t, o, adj("1 1 20"), over(sampleColumn(), "1 2 25, 1 3 6, 1 4 3, 4 1 40, 5 1 29, 5 5 50, 9 9 41", "3 8"), api.OK)
	insertIs(t, o, adj("1 2 8"), over(sampleColumn(), "1 2 8, 1 2 25, 1 3 6, 1 4 3, 4 1 40, 5 1 29, 5 5 50, 9 9 41", "3 8 20"), api.OK)
	insertIs(t, o, adj("9 9 8"), over(sampleColumn(), "1 2 25, 1 3 6, 1 4 3, 4 1 40, 5 1 29, 5 5 50, 9 9 8, 9 9 41", "3 8 20"), api.OK)
	all := "1 2 3 4 8 9 20 30"
	for _, a := range members(over(sampleColumn(), "", "")) {
		o := over(sampleColumn(), "7 7 77", all)
		back := over(sampleColumn(), "7 7 77", all)
		back.Dels = without(back.Dels, a.Edge)
		insertIs(t, o, a, back, api.OK)
		insertIs(t, over(sampleColumn(), "", all), a, api.Overlay{Base: sampleColumn(), Dels: back.Dels}, api.OK)
		insertIs(t, api.Overlay{Base: sampleColumn(), Dels: []int{a.Edge}}, a, over(sampleColumn(), "", ""), api.OK)
		// The nodes of other entries, one of the entry's nodes, and both exchanged.
		for _, b := range []api.Adj{{From: a.From, To: 7}, {From: 7, To: a.To}, {From: a.To + 1, To: a.From}, {From: 5, To: 8}, {From: 2, To: 3}, {From: 1000000, To: 1}} {
			b.Edge = a.Edge
			want := over(sampleColumn(), "7 7 77", all)
			want.Adds = sorted(append(want.Adds, b))
			insertIs(t, o, b, want, api.OK)
		}
	}
}

// P13.3: an overlay that is not valid comes before everything, and an integer that is no id before an edge that is there already.
func TestInsertTwoErrors(t *testing.T) {
	for _, a := range sampleEntries() {
		for number := range 2 {
			for _, id := range noIds {
				b := a
				*field(&b, number) = id
				insertIs(t, sample(), b, api.Overlay{}, api.ErrArg)
				insertIs(t, sampleWith(func(o *api.Overlay) { o.Dels[0] = 5 }), b, api.Overlay{}, api.ErrState)
				insertIs(t, sampleWith(func(o *api.Overlay) { o.Base.First[0] = 1 }), b, api.Overlay{}, api.ErrState)
			}
		}
		insertIs(t, sampleWith(func(o *api.Overlay) { o.Dels[0] = 5 }), a, api.Overlay{}, api.ErrState)
	}
	// The entry that is inserted would make the overlay valid, or is what makes it not valid.
	insertIs(t, over(chapter(), "", "9"), adj("1 1 9"), api.Overlay{}, api.ErrState)
	insertIs(t, over(chapter(), "1 1 0", ""), adj("1 1 0"), api.Overlay{}, api.ErrState)
	insertIs(t, over(chapter(), "1 1 5", ""), adj("1 2 5"), api.Overlay{}, api.ErrState)
}

// orders calls visit with l in every order.
func orders[T any](l []T, visit func(l []T)) {
	var from func(at int)
	from = func(at int) {
		if at == len(l) {
			visit(l)
			return
		}
		for i := at; i < len(l); i++ {
			l[at], l[i] = l[i], l[at]
			from(at + 1)
			l[at], l[i] = l[i], l[at]
		}
	}
	from(0)
}

// P13.3: entries one after the other, in every order.
func TestInsertInEveryOrder(t *testing.T) {
	visits := 0
	for _, c := range []api.Column{{}, chapter()} {
		orders(adjs("1 1 9, 1 2 3, 1 2 8, 1 4 2, 2 1 7"), func(l []api.Adj) {
			o := api.Overlay{Base: c}
			for i, a := range l {
				want := api.Overlay{Base: c, Adds: sorted(l[:i+1])}
				insertIs(t, o, a, want, api.OK)
				o = want
			}
			visits++
		})
	}
	if visits != 2*120 {
		t.Errorf("%d orders were visited", visits)
	}
}
