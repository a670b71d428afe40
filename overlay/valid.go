package overlay

import (
	"cmp"
	"graphdb/api"
	"graphdb/column"
	"slices"
)

// Valid reports whether o is valid.
func Valid(o api.Overlay) bool {
	if !column.Valid(o.Base) || !areIncreasing(o.Adds, order) || !areIncreasing(o.Dels, cmp.Compare[int]) {
		return false
	}
	// Only now that the column is valid and Dels is in order, it is clear which entries there are.
	return haveIds(o.Adds) && hasEdges(o.Base, o.Dels) && haveDistinctEdges(entries(o))
}

// areIncreasing reports whether each element of l is greater than the one before it.
func areIncreasing[T any](l []T, compare func(a, b T) int) bool {
	for i := 1; i < len(l); i++ {
		if compare(l[i-1], l[i]) >= 0 {
			return false
		}
	}
	return true
}

// haveIds reports whether From, To and Edge of all entries of l can be ids.
func haveIds(l []api.Adj) bool {
	for _, a := range l {
		if !hasIds(a) {
			return false
		}
	}
	return true
}

// hasIds reports whether From, To and Edge of a can be ids.
func hasIds(a api.Adj) bool {
	return min(a.From, a.To, a.Edge) >= 1 && max(a.From, a.To, a.Edge) <= api.MaxId
}

// hasEdges reports whether each element of l is an edge of c.
func hasEdges(c api.Column, l []int) bool {
	edges := slices.Sorted(slices.Values(c.Edge))
	for _, edge := range l {
		if _, found := slices.BinarySearch(edges, edge); !found {
			return false
		}
	}
	return true
}

// haveDistinctEdges reports whether no two entries of l have the same edge.
func haveDistinctEdges(l []api.Adj) bool {
	var edges []int
	for _, a := range l {
		edges = append(edges, a.Edge)
	}
	slices.Sort(edges)
	return areIncreasing(edges, cmp.Compare[int])
}
