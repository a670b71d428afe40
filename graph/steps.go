package graph

import (
	"cmp"
	"graphdb/api"
	"slices"
)

// Steps returns the adjacency of the node with that id by edges of the given types in direction dir, sorted by the node reached and then by the edge.
func Steps(g api.Graph, id int, types []string, dir int) []api.Adj {
	var l []api.Adj
	for _, e := range g.Edges {
		if to, ok := across(e, id, dir); ok && HasType(e, types) {
			l = append(l, api.Adj{From: id, To: to, Edge: e.Id})
		}
	}
	slices.SortFunc(l, orderSteps)
	return l
}

// across returns the node that e leads to from the node with that id in direction dir, or false if e does not lead from there.
func across(e api.Edge, id, dir int) (int, bool) {
	// The first case that fits decides: with Both, a loop fits both of them and counts once.
	switch {
	case (dir == api.Out || dir == api.Both) && e.From == id:
		return e.To, true
	case (dir == api.In || dir == api.Both) && e.To == id:
		return e.From, true
	}
	return 0, false
}

// orderSteps compares two entries that lead from the same node.
func orderSteps(a, b api.Adj) int {
	return cmp.Or(cmp.Compare(a.To, b.To), cmp.Compare(a.Edge, b.Edge))
}
