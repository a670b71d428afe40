package overlay_test

import (
	"graphdb/api"
	"testing"
)

// P13.4: the chapter's examples.
func TestDeleteExamples(t *testing.T) {
	deleteIs(t, over(chapter(), "", ""), 5, over(chapter(), "", "5"), api.OK)
	deleteIs(t, over(chapter(), "1 1 9", ""), 7, api.Overlay{}, api.ErrEdge)
	deleteIs(t, over(chapter(), "1 1 9", "5"), 7, api.Overlay{}, api.ErrEdge)
}

// P13.4: edges of the column go into the deletions, at each place.
func TestDeleteOfBase(t *testing.T) {
	for _, c := range []struct {
		edge int
		dels string
	}{
		{1, "1 3 8 20"}, {2, "2 3 8 20"}, {4, "3 4 8 20"}, {9, "3 8 9 20"}, {30, "3 8 20 30"},
	} {
		deleteIs(t, sample(), c.edge, over(sampleColumn(), "1 2 25, 1 3 6, 1 4 3, 4 1 40, 5 1 29, 5 5 50, 9 9 41", c.dels), api.OK)
	}
	for _, edge := range sampleColumn().Edge {
		deleteIs(t, over(sampleColumn(), "", ""), edge, api.Overlay{Base: sampleColumn(), Dels: []int{edge}}, api.OK)
	}
}

// P13.4: edges of insertions go out of these, at each place, whether the column has them, too, or not.
func TestDeleteOfAdds(t *testing.T) {
	for _, c := range []struct {
		edge int
		adds string
	}{
		{25, "1 3 6, 1 4 3, 4 1 40, 5 1 29, 5 5 50, 9 9 41"},
		{6, "1 2 25, 1 4 3, 4 1 40, 5 1 29, 5 5 50, 9 9 41"},
		{3, "1 2 25, 1 3 6, 4 1 40, 5 1 29, 5 5 50, 9 9 41"},
		{40, "1 2 25, 1 3 6, 1 4 3, 5 1 29, 5 5 50, 9 9 41"},
		{29, "1 2 25, 1 3 6, 1 4 3, 4 1 40, 5 5 50, 9 9 41"},
		{50, "1 2 25, 1 3 6, 1 4 3, 4 1 40, 5 1 29, 9 9 41"},
		{41, "1 2 25, 1 3 6, 1 4 3, 4 1 40, 5 1 29, 5 5 50"},
	} {
		deleteIs(t, sample(), c.edge, over(sampleColumn(), c.adds, "3 8 20"), api.OK)
	}
	deleteIs(t, over(chapter(), "1 1 9", ""), 9, over(chapter(), "", ""), api.OK)
	deleteIs(t, over(chapter(), "2 1 5", "5"), 5, over(chapter(), "", "5"), api.OK)
	deleteIs(t, over(chapter(), "1 2 5", "5"), 5, over(chapter(), "", "5"), api.OK)
	for _, c := range []api.Column{{}, col("", "0", "", "")} {
		deleteIs(t, over(c, "1 2 3", ""), 3, api.Overlay{Base: c}, api.OK)
		deleteIs(t, over(c, "1 1 1, 1000000 1000000 1000000", ""), 1000000, over(c, "1 1 1", ""), api.OK)
		deleteIs(t, over(c, "1 1 1, 1000000 1000000 1000000", ""), 1, over(c, "1000000 1000000 1000000", ""), api.OK)
	}
}

// P13.4: edges that were deleted before, edges that no entry ever had, ids of nodes, and integers that are no ids.
func TestDeleteOfNothing(t *testing.T) {
	for _, o := range []api.Overlay{{}, {Base: col("", "0", "", "")}, over(chapter(), "", "4 5"), sample(), over(sampleColumn(), "", "3 8 20")} {
		for _, edge := range append(noIds, 8, 20, 5, 7, 10, 999999, 1000000) {
			deleteIs(t, o, edge, api.Overlay{}, api.ErrEdge)
		}
	}
	for _, edge := range []int{1, 2, 3, 6, 9, 1000000} {
		deleteIs(t, over(chapter(), "", ""), edge, api.Overlay{}, api.ErrEdge)
	}
	deleteIs(t, over(chapter(), "", "5"), 5, api.Overlay{}, api.ErrEdge)
}

// P13.4: an overlay that is not valid, whether the edge is there or not.
func TestDeleteOfInvalid(t *testing.T) {
	for _, edge := range append(noIds, sampleColumn().Edge...) {
		deleteIs(t, sampleWith(func(o *api.Overlay) { o.Dels[0] = 5 }), edge, api.Overlay{}, api.ErrState)
		deleteIs(t, sampleWith(func(o *api.Overlay) { o.Adds[0].From = 0 }), edge, api.Overlay{}, api.ErrState)
		deleteIs(t, sampleWith(func(o *api.Overlay) { o.Base.First[0] = 1 }), edge, api.Overlay{}, api.ErrState)
	}
	// What is deleted would make the overlay valid.
	deleteIs(t, over(chapter(), "1 1 5", ""), 5, api.Overlay{}, api.ErrState)
	deleteIs(t, over(chapter(), "1 1 0", ""), 0, api.Overlay{}, api.ErrState)
	deleteIs(t, over(chapter(), "1 1 9, 2 2 9", ""), 9, api.Overlay{}, api.ErrState)
}

// P13.4: all entries one after the other, in every order.
func TestDeleteInEveryOrder(t *testing.T) {
	visits := 0
	orders([]int{4, 5, 9, 2, 8}, func(l []int) {
		o := over(col("1 3", "0 2 3", "2 3 1", "5 4 8"), "1 1 9, 3 1 2", "")
		for _, edge := range l {
			want, _ := deleted(o, edge)
			deleteIs(t, o, edge, want, api.OK)
			deleteIs(t, want, edge, api.Overlay{}, api.ErrEdge)
			o = want
		}
		if !same(o, over(o.Base, "", "4 5 8")) {
			t.Errorf("what remains is %+v", o)
		}
		readsAs(t, o, nil)
		visits++
	})
	if visits != 120 {
		t.Errorf("%d orders were visited", visits)
	}
}
