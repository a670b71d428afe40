package column_test

import (
	"graphdb/api"
	"math/rand"
	"slices"
	"testing"
)

// sampleEntries returns entries in order: gaps between the nodes, loops, parallel edges, and edges whose ids are not in the order of the entries.
func sampleEntries() []api.Adj {
	return adjs("1 1 20, 1 3 4, 1 3 9, 2 1 8, 5 1 30, 5 5 2, 5 5 3, 5 9 1")
}

// sampleColumn returns the column with the sample of entries.
func sampleColumn() api.Column {
	return col("1 2 5", "0 3 4 8", "1 3 3 1 1 5 5 9", "20 4 9 8 30 2 3 1")
}

// orders calls visit with l in every order.
func orders(l []api.Adj, visit func(l []api.Adj)) {
	var from func(at int)
	from = func(at int) {
		if at == len(l) {
			visit(l)
			return
		}
		for i := at; i < len(l); i++ {
			l[at], l[i] = l[i], l[at]
			from(at + 1)
			l[at], l[i] = l[i], l[at]
		}
	}
	from(0)
}

// P12.2: the chapter's example, and the same entries with different edges.
func TestOfExamples(t *testing.T) {
	ofIs(t, adjs("1 2 7, 3 4 7"), api.Column{}, api.ErrTwice)
	ofIs(t, adjs("1 2 7, 3 4 8"), col("1 3", "0 1 2", "2 4", "7 8"), api.OK)
	ofIs(t, adjs("3 4 7, 1 2 8"), col("1 3", "0 1 2", "2 4", "8 7"), api.OK)
	ofIs(t, adjs("1 2 1, 1 3 2"), col("1", "0 2", "2 3", "1 2"), api.OK)
}

// P12.2: no entries.
func TestOfNothing(t *testing.T) {
	ofIs(t, nil, api.Column{}, api.OK)
	ofIs(t, []api.Adj{}, api.Column{}, api.OK)
}

// P12.2: the sample in order, and parts of it in every order.
func TestOfEveryOrder(t *testing.T) {
	ofIs(t, sampleEntries(), sampleColumn(), api.OK)
	visits := 0
	for at := range 3 {
		part := sampleEntries()[at : at+6]
		want := ordered(part)
		orders(part, func(l []api.Adj) {
			ofIs(t, l, want, api.OK)
			visits++
		})
	}
	if visits != 3*720 {
		t.Errorf("%d orders were visited", visits)
	}
	source := rand.New(rand.NewSource(122))
	for range 500 {
		l := sampleEntries()
		source.Shuffle(len(l), func(i, j int) { l[i], l[j] = l[j], l[i] })
		ofIs(t, l, sampleColumn(), api.OK)
	}
}

// P12.2: entries whose order From, To or Edge alone decides, whatever the others are.
func TestOfOrder(t *testing.T) {
	ofIs(t, adjs("2 1 1, 1 2 2"), col("1 2", "0 1 2", "2 1", "2 1"), api.OK)
	ofIs(t, adjs("1 2 1, 1 1 2"), col("1", "0 2", "1 2", "2 1"), api.OK)
	ofIs(t, adjs("1 1 2, 1 1 1"), col("1", "0 2", "1 1", "1 2"), api.OK)
	ofIs(t, adjs("1 1 10, 1 1 9, 1 1 100"), col("1", "0 3", "1 1 1", "9 10 100"), api.OK)
	ofIs(t, adjs("9 1 1, 10 1 2, 8 1 3"), col("8 9 10", "0 1 2 3", "1 1 1", "3 1 2"), api.OK)
}

// withId returns a sample in which From, To or Edge, by number, of the entry at index i is id.
func withId(i, field, id int) []api.Adj {
	l := sampleEntries()
	*[]*int{&l[i].From, &l[i].To, &l[i].Edge}[field] = id
	return l
}

// P12.2: ids at the ends of their range, and others, in each place.
func TestOfIds(t *testing.T) {
	for i := range sampleEntries() {
		for field := range 3 {
			for _, id := range noIds {
				ofIs(t, withId(i, field, id), api.Column{}, api.ErrArg)
			}
			for _, id := range []int{1000000, 999999, 7, 6} {
				l := withId(i, field, id)
				ofIs(t, l, ordered(l), api.OK)
			}
		}
	}
	ofIs(t, adjs("1 1 1"), col("1", "0 1", "1", "1"), api.OK)
	ofIs(t, adjs("1000000 1000000 1000000"), col("1000000", "0 1", "1000000", "1000000"), api.OK)
	ofIs(t, adjs("1 1000000 1, 1000000 1 1000000"), col("1 1000000", "0 1 2", "1000000 1", "1 1000000"), api.OK)
	ofIs(t, []api.Adj{{}}, api.Column{}, api.ErrArg)
}

// P12.2: each two entries with the same edge, in one row and in two, and whole entries that come again.
func TestOfTwice(t *testing.T) {
	for i, a := range sampleEntries() {
		for j := range i {
			ofIs(t, withId(j, 2, a.Edge), api.Column{}, api.ErrTwice)
			ofIs(t, withId(i, 2, sampleEntries()[j].Edge), api.Column{}, api.ErrTwice)
		}
		ofIs(t, append(sampleEntries(), a), api.Column{}, api.ErrTwice)
		ofIs(t, []api.Adj{a, a}, api.Column{}, api.ErrTwice)
	}
	ofIs(t, adjs("1 2 7, 1 3 7"), api.Column{}, api.ErrTwice)
	ofIs(t, adjs("1 2 7, 2 1 7"), api.Column{}, api.ErrTwice)
	ofIs(t, adjs("1 2 7, 3 2 8, 4 4 7"), api.Column{}, api.ErrTwice)
	// The same id as two nodes and an edge is no edge that comes twice, nor are two ends that come twice.
	ofIs(t, adjs("7 7 7, 7 7 8"), col("7", "0 2", "7 7", "7 8"), api.OK)
}

// P12.2: an id out of range decides, wherever it stands beside an edge that comes twice.
func TestOfTwoErrors(t *testing.T) {
	for i := range sampleEntries() {
		for field := range 3 {
			for _, id := range noIds {
				for j := 1; j < 8; j++ {
					l := withId(i, field, id)
					if i != j && i != j-1 {
						l[j].Edge = l[j-1].Edge
					}
					ofIs(t, l, api.Column{}, api.ErrArg)
				}
				ofIs(t, append(adjs("1 1 77, 1 1 77"), withId(i, field, id)...), api.Column{}, api.ErrArg)
				ofIs(t, append(withId(i, field, id), adjs("1 1 77, 1 1 77")...), api.Column{}, api.ErrArg)
			}
		}
	}
	// The edge that comes twice is no id itself.
	ofIs(t, adjs("1 1 0, 2 2 0"), api.Column{}, api.ErrArg)
	ofIs(t, adjs("1 1 1000001, 2 2 1000001"), api.Column{}, api.ErrArg)
}

// P12.2: more entries than a graph can have edges, in one row, in a row each, and in between.
func TestOfManyEntries(t *testing.T) {
	const n = 70000
	for _, width := range []int{1, 7, n} {
		var want api.Column
		l := make([]api.Adj, n)
		for i := range n {
			// Entry i is put at an index that jumps back and forth.
			l[i*9973%n] = api.Adj{From: i/width + 1, To: i%width/2 + 1, Edge: i + 1}
			if i%width == 0 {
				want.Nodes = append(want.Nodes, i/width+1)
				want.First = append(want.First, i)
			}
			want.To = append(want.To, i%width/2+1)
			want.Edge = append(want.Edge, i+1)
		}
		want.First = append(want.First, n)
		ofIs(t, l, want, api.OK)
		isRestored(t, want)
		l[n-1].Edge = l[5].Edge
		ofIs(t, l, api.Column{}, api.ErrTwice)
		l[n-2].To = 0
		ofIs(t, l, api.Column{}, api.ErrArg)
	}
}

// P12.2: pseudorandom lists, some with ids out of range and edges that come twice, by what Of is defined to return.
func TestOfAnyList(t *testing.T) {
	source := rand.New(rand.NewSource(1220))
	for range 20000 {
		l := someEntries(source, 14)
		for range source.Intn(3) {
			if len(l) == 0 {
				break
			}
			a := &l[source.Intn(len(l))]
			switch source.Intn(6) {
			case 0:
				a.From = noIds[source.Intn(len(noIds))]
			case 1:
				a.To = noIds[source.Intn(len(noIds))]
			case 2:
				a.Edge = noIds[source.Intn(len(noIds))]
			case 3:
				a.Edge = l[source.Intn(len(l))].Edge
			}
		}
		want, err := columnOf(l)
		ofIs(t, l, want, err)
		slices.Reverse(l)
		ofIs(t, l, want, err)
	}
}
