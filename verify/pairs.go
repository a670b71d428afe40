package verify

import (
	"graphdb/api"
	"graphdb/graph"
	"graphdb/value"
	"slices"
)

// pairs returns the violations of the valid rule r in the valid graph g, in increasing order.
func pairs(r api.Rule, g api.Graph) [][2]int {
	switch r.Kind {
	case api.RUnique:
		return twins(r, g)
	case api.RExists, api.RKind:
		return nodesThat(g, func(n api.Node) bool { return graph.HasLabel(n, r.Name) && breaks(n.Props, r) })
	case api.REdgeExists, api.REdgeKind:
		return edgesThat(g, func(e api.Edge) bool { return e.Type == r.Name && breaks(e.Props, r) })
	case api.REnds:
		from, to := allowed(g, r.From), allowed(g, r.To)
		return edgesThat(g, func(e api.Edge) bool { return e.Type == r.Name && !(from[e.From] && to[e.To]) })
	}
	degrees := outDegrees(g, r.Name)
	return nodesThat(g, func(n api.Node) bool { return degrees[n.Id] > r.N })
}

// twins returns the pairs of nodes with r's label whose values of r's property are equal.
func twins(r api.Rule, g api.Graph) [][2]int {
	var l [][2]int
	// Properties are booleans, integers or strings, which are equal if and only if their texts are: so a map finds the equal ones.
	later := map[string][]int{}
	for _, n := range slices.Backward(g.Nodes) {
		if !graph.HasLabel(n, r.Name) || !hasProp(n.Props, r.Key) {
			continue
		}
		text := value.Text(graph.Prop(n.Props, r.Key))
		for _, id := range later[text] {
			l = append(l, [2]int{n.Id, id})
		}
		later[text] = append(later[text], n.Id)
	}
	// From the last node to the first, both ids of the pairs were found in decreasing order.
	slices.Reverse(l)
	return l
}

// nodesThat returns the nodes of g that violate a rule each by itself, as pairs in increasing order.
func nodesThat(g api.Graph, violate func(n api.Node) bool) [][2]int {
	var l [][2]int
	for _, n := range g.Nodes {
		if violate(n) {
			l = append(l, [2]int{n.Id, 0})
		}
	}
	return l
}

// edgesThat returns the edges of g that violate a rule each by itself, as pairs in increasing order.
func edgesThat(g api.Graph, violate func(e api.Edge) bool) [][2]int {
	var l [][2]int
	for _, e := range g.Edges {
		if violate(e) {
			l = append(l, [2]int{e.Id, 0})
		}
	}
	return l
}

// breaks reports whether the properties l break r, which asks for a property or for the kind of its value.
func breaks(l []api.Prop, r api.Rule) bool {
	switch r.Kind {
	case api.RExists, api.REdgeExists:
		return !hasProp(l, r.Key)
	}
	return hasProp(l, r.Key) && graph.Prop(l, r.Key).Kind != r.N
}

// hasProp reports whether l has a property with that key.
func hasProp(l []api.Prop, key string) bool {
	return slices.ContainsFunc(l, func(p api.Prop) bool { return p.Key == key })
}

// allowed returns the ids of the nodes of g that have the label, or of all nodes if the label is empty.
func allowed(g api.Graph, label string) map[int]bool {
	ids := map[int]bool{}
	for _, n := range g.Nodes {
		ids[n.Id] = label == "" || graph.HasLabel(n, label)
	}
	return ids
}

// outDegrees returns, by node, the number of edges of that type that begin there.
func outDegrees(g api.Graph, name string) map[int]int {
	degrees := map[int]int{}
	for _, e := range g.Edges {
		if e.Type == name {
			degrees[e.From]++
		}
	}
	return degrees
}
