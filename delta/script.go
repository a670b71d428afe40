package delta

import (
	"graphdb/api"
	"graphdb/graph"
	"graphdb/value"
	"slices"
)

// script returns the changes that turn the valid graph a into a graph that is alike the valid graph b.
func script(a, b api.Graph) []api.Change {
	nodes, edges := keptNodes(a, b), keptEdges(a, b)
	// Edges go before the nodes where they end, and come after them.
	return slices.Concat(
		delEdges(a, edges), delNodes(a, nodes),
		addNodes(b, nodes), editNodes(b, nodes),
		addEdges(b, edges), editEdges(b, edges),
	)
}

// keptNodes returns, by id, the nodes of a that b has as well.
func keptNodes(a, b api.Graph) map[int]api.Node {
	inB := map[int]bool{}
	for _, n := range b.Nodes {
		inB[n.Id] = true
	}
	kept := map[int]api.Node{}
	for _, n := range a.Nodes {
		if inB[n.Id] {
			kept[n.Id] = n
		}
	}
	return kept
}

// keptEdges returns, by id, the edges of a that b has as well and does not replace.
func keptEdges(a, b api.Graph) map[int]api.Edge {
	inB := map[int]api.Edge{}
	for _, e := range b.Edges {
		inB[e.Id] = e
	}
	kept := map[int]api.Edge{}
	for _, e := range a.Edges {
		if f, ok := inB[e.Id]; ok && e.From == f.From && e.To == f.To && e.Type == f.Type {
			kept[e.Id] = e
		}
	}
	return kept
}

// delEdges returns the changes that remove the edges of a that are not kept.
func delEdges(a api.Graph, kept map[int]api.Edge) []api.Change {
	var l []api.Change
	for _, e := range a.Edges {
		if _, ok := kept[e.Id]; !ok {
			l = append(l, api.Change{Op: api.DelEdge, Id: e.Id})
		}
	}
	return l
}

// delNodes returns the changes that remove the nodes of a that are not kept.
func delNodes(a api.Graph, kept map[int]api.Node) []api.Change {
	var l []api.Change
	for _, n := range a.Nodes {
		if _, ok := kept[n.Id]; !ok {
			l = append(l, api.Change{Op: api.DelNode, Id: n.Id})
		}
	}
	return l
}

// addNodes returns the changes that add the nodes of b that are not kept from before.
func addNodes(b api.Graph, kept map[int]api.Node) []api.Change {
	var l []api.Change
	for _, n := range b.Nodes {
		if _, ok := kept[n.Id]; !ok {
			l = append(l, api.Change{Op: api.AddNode, Id: n.Id})
		}
	}
	return l
}

// addEdges returns the changes that add the edges of b that are not kept from before.
func addEdges(b api.Graph, kept map[int]api.Edge) []api.Change {
	var l []api.Change
	for _, e := range b.Edges {
		if _, ok := kept[e.Id]; !ok {
			l = append(l, api.Change{Op: api.AddEdge, Id: e.Id, From: e.From, To: e.To, Name: e.Type})
		}
	}
	return l
}

// editNodes returns the changes that give the nodes of b their labels and properties, some of which the kept nodes have already.
func editNodes(b api.Graph, kept map[int]api.Node) []api.Change {
	var l []api.Change
	for _, n := range b.Nodes {
		// A node that is not kept begins as kept's zero value, without labels and properties.
		old := kept[n.Id]
		// What goes must go first: the node may have as many labels or properties as it can have.
		l = append(l, relabel(api.DelLabel, n.Id, old, n)...)
		l = append(l, unset(api.SetNode, n.Id, old.Props, n.Props)...)
		l = append(l, relabel(api.AddLabel, n.Id, n, old)...)
		l = append(l, set(api.SetNode, n.Id, old.Props, n.Props)...)
	}
	return l
}

// editEdges returns the changes that give the edges of b their properties, some of which the kept edges have already.
func editEdges(b api.Graph, kept map[int]api.Edge) []api.Change {
	var l []api.Change
	for _, e := range b.Edges {
		old := kept[e.Id]
		l = append(l, unset(api.SetEdge, e.Id, old.Props, e.Props)...)
		l = append(l, set(api.SetEdge, e.Id, old.Props, e.Props)...)
	}
	return l
}

// relabel returns the changes with that Op and id for the labels that n has and other does not.
func relabel(op, id int, n, other api.Node) []api.Change {
	var l []api.Change
	for _, label := range n.Labels {
		if !graph.HasLabel(other, label) {
			l = append(l, api.Change{Op: op, Id: id, Name: label})
		}
	}
	return l
}

// unset returns the changes with that Op and id that remove the properties whose keys are in from and not in to.
func unset(op, id int, from, to []api.Prop) []api.Change {
	var l []api.Change
	for _, p := range from {
		if !slices.ContainsFunc(to, func(q api.Prop) bool { return q.Key == p.Key }) {
			l = append(l, api.Change{Op: op, Id: id, Name: p.Key, V: value.Null()})
		}
	}
	return l
}

// set returns the changes with that Op and id that set the properties of to that from lacks or has with another value.
func set(op, id int, from, to []api.Prop) []api.Change {
	var l []api.Change
	for _, p := range to {
		// A property is never null, which stands for a missing one here.
		if value.Order(graph.Prop(from, p.Key), p.V) != 0 {
			l = append(l, api.Change{Op: op, Id: id, Name: p.Key, V: p.V})
		}
	}
	return l
}
