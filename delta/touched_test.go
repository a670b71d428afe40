package delta_test

import (
	"graphdb/api"
	"graphdb/delta"
	"math"
	"slices"
	"testing"
)

// P11.1: a change with each Op by itself, whose fields are all different, also those that it does not use.
func TestTouchedByOp(t *testing.T) {
	for op := api.AddNode; op <= api.SetEdge; op++ {
		c := api.Change{Op: op, Id: 5, From: 7, To: 6, Name: "A", V: val(9)}
		switch op {
		case api.AddEdge:
			touchedIs(t, []api.Change{c}, []int{6, 7}, []int{5})
		case api.DelEdge, api.SetEdge:
			touchedIs(t, []api.Change{c}, nil, []int{5})
		default:
			touchedIs(t, []api.Change{c}, []int{5}, nil)
		}
	}
	touchedIs(t, changes("+node 1, -node 2, +label 3 A, -label 4 A, set 5 k 1, +edge 6 8 7 T, -edge 9, eset 10 k null"), []int{1, 2, 3, 4, 5, 7, 8}, []int{6, 9, 10})
}

// P11.1: no changes touch nothing.
func TestTouchedByNone(t *testing.T) {
	touchedIs(t, nil, nil, nil)
	touchedIs(t, []api.Change{}, nil, nil)
}

// P11.1: changes with an Op that does not exist are ignored, by themselves and among others.
func TestTouchedIgnoresOtherOps(t *testing.T) {
	for _, op := range []int{0, 9, 10, -1, -8, 16, 257, 1 << 32, 1<<32 + 1, math.MinInt, math.MinInt + 1, math.MaxInt - 1, math.MaxInt} {
		c := api.Change{Op: op, Id: 1, From: 2, To: 3, Name: "T"}
		touchedIs(t, []api.Change{c}, nil, nil)
		touchedIs(t, []api.Change{c, {Op: api.AddNode, Id: 4}, c, {Op: api.SetEdge, Id: 4}, c}, []int{4}, []int{4})
	}
}

// P11.1: ids that come more than once, as ends of edges, too, in any order.
func TestTouchedRepeatedly(t *testing.T) {
	for _, c := range []struct {
		l            string
		nodes, edges []int
	}{
		{"+node 1, +label 1 A, set 1 k 1, -label 1 A, -node 1", []int{1}, nil},
		{"+edge 1 1 1 T, eset 1 k 1, -edge 1", []int{1}, []int{1}},
		{"+edge 1 2 2 T", []int{2}, []int{1}},
		{"+edge 5 2 9 T, +edge 5 9 2 T, -edge 5", []int{2, 9}, []int{5}},
		{"+node 9, +node 3, +node 7, +node 3, +node 9, +node 1", []int{1, 3, 7, 9}, nil},
		{"-edge 9, -edge 3, -edge 7, -edge 3, -edge 9, -edge 1", nil, []int{1, 3, 7, 9}},
		{"+node 10, +node 9, +node 100, +node 1, -edge 10, -edge 9, -edge 100, -edge 1", []int{1, 9, 10, 100}, []int{1, 9, 10, 100}},
		{"-node 4, +edge 4 3 5 T, set 3 k 1, eset 4 k 1, +edge 2 5 4 T, -node 1", []int{1, 3, 4, 5}, []int{2, 4}},
		// An id of an edge is none of a node, and the other way round.
		{"-edge 1, +node 2", []int{2}, []int{1}},
	} {
		l := changes(c.l)
		touchedIs(t, l, c.nodes, c.edges)
		slices.Reverse(l)
		touchedIs(t, l, c.nodes, c.edges)
	}
}

// P11.1: ids of any sign, and changes that are not valid for other reasons.
func TestTouchedByInvalidChanges(t *testing.T) {
	ids := []int{0, -1, 1, 1000000, 1000001, -1000001, math.MaxInt, math.MinInt, 1 << 32}
	sorted := slices.Sorted(slices.Values(ids))
	for op := api.AddNode; op <= api.SetEdge; op++ {
		var l []api.Change
		for _, id := range ids {
			l = append(l, api.Change{Op: op, Id: id, From: -id, To: 77, Name: "9", V: api.Value{Kind: 9}})
		}
		switch op {
		case api.AddEdge:
			// The negative of the least integer is itself.
			touchedIs(t, l, []int{math.MinInt, -math.MaxInt, -1 << 32, -1000001, -1000000, -1, 0, 1, 77, 1000001}, sorted)
		case api.DelEdge, api.SetEdge:
			touchedIs(t, l, nil, sorted)
		default:
			touchedIs(t, l, sorted, nil)
		}
	}
	touchedIs(t, []api.Change{{Op: api.AddEdge}}, []int{0}, []int{0})
	touchedIs(t, []api.Change{{Op: api.AddEdge, Id: -3, From: -5, To: -4}}, []int{-5, -4}, []int{-3})
}

// P11.1: a list as long as no script of a graph is.
func TestTouchedByLongList(t *testing.T) {
	var l []api.Change
	for i := range 300000 {
		l = append(l, api.Change{Op: 1 + i%8, Id: i * 7 % 997, From: -1, To: 5000})
	}
	touched, edges := delta.Touched(l)
	if len(touched) != 999 || touched[0] != -1 || touched[1] != 0 || touched[998] != 5000 || len(edges) != 997 || edges[996] != 996 {
		t.Errorf("Touched returned %d nodes and %d edges", len(touched), len(edges))
	}
}
