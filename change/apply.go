package change

import (
	"cmp"
	"graphdb/api"
	"graphdb/graph"
	"slices"
)

// Apply returns g as c leaves it, or the error for which c can't be made in g.
func Apply(g api.Graph, c api.Change) (api.Graph, api.Errno) {
	h, _, err := ApplyAll(g, []api.Change{c})
	return h, err
}

// ApplyAll returns g as the changes of l leave it, one after the other, and their number. If one can't be made, it returns its index and its error.
func ApplyAll(g api.Graph, l []api.Change) (api.Graph, int, api.Errno) {
	if err := graph.Check(g); err != api.OK {
		return api.Graph{}, 0, err
	}
	// A change leaves a valid graph valid, so the graphs in between need no check.
	h := copyOf(g)
	for i, c := range l {
		if err := edit(&h, c); err != api.OK {
			return api.Graph{}, i, err
		}
	}
	return h, len(l), api.OK
}

// copyOf returns a copy of g that can be edited without a change of g.
func copyOf(g api.Graph) api.Graph {
	g.Nodes, g.Edges = slices.Clone(g.Nodes), slices.Clone(g.Edges)
	for i := range g.Nodes {
		n := &g.Nodes[i]
		n.Labels, n.Props = slices.Clone(n.Labels), slices.Clone(n.Props)
	}
	for i := range g.Edges {
		e := &g.Edges[i]
		e.Props = slices.Clone(e.Props)
	}
	return g
}

// edit makes the change c in the valid graph g, or returns the error for which it can't and leaves g as it is.
func edit(g *api.Graph, c api.Change) api.Errno {
	if err := Check(c); err != api.OK {
		return err
	}
	switch c.Op {
	case api.AddNode:
		return addNode(g, c)
	case api.AddEdge:
		return addEdge(g, c)
	case api.DelEdge, api.SetEdge:
		return editEdge(g, c)
	}
	return editNode(g, c)
}

// addNode adds the node of c to g.
func addNode(g *api.Graph, c api.Change) api.Errno {
	at, found := findNode(g, c.Id)
	if found {
		return api.ErrTwice
	}
	if len(g.Nodes) == api.MaxNodes {
		return api.ErrFull
	}
	g.Nodes = slices.Insert(g.Nodes, at, api.Node{Id: c.Id})
	g.NextNode = max(g.NextNode, c.Id+1)
	return api.OK
}

// addEdge adds the edge of c to g.
func addEdge(g *api.Graph, c api.Change) api.Errno {
	at, found := findEdge(g, c.Id)
	if found {
		return api.ErrTwice
	}
	if !hasNode(g, c.From) || !hasNode(g, c.To) {
		return api.ErrNode
	}
	if len(g.Edges) == api.MaxEdges {
		return api.ErrFull
	}
	g.Edges = slices.Insert(g.Edges, at, api.Edge{Id: c.Id, From: c.From, To: c.To, Type: c.Name})
	g.NextEdge = max(g.NextEdge, c.Id+1)
	return api.OK
}

// editNode makes the change c of a node that must be there.
func editNode(g *api.Graph, c api.Change) api.Errno {
	at, found := findNode(g, c.Id)
	if !found {
		return api.ErrNode
	}
	n := &g.Nodes[at]
	switch c.Op {
	case api.AddLabel:
		return addLabel(n, c.Name)
	case api.DelLabel:
		return delLabel(n, c.Name)
	case api.SetNode:
		return setProp(&n.Props, c.Name, c.V)
	}
	return delNode(g, at)
}

// delNode removes the node at that index of g.
func delNode(g *api.Graph, at int) api.Errno {
	if isUsed(g, g.Nodes[at].Id) {
		return api.ErrUsed
	}
	g.Nodes = slices.Delete(g.Nodes, at, at+1)
	return api.OK
}

// editEdge makes the change c of an edge that must be there.
func editEdge(g *api.Graph, c api.Change) api.Errno {
	at, found := findEdge(g, c.Id)
	if !found {
		return api.ErrEdge
	}
	if c.Op == api.SetEdge {
		return setProp(&g.Edges[at].Props, c.Name, c.V)
	}
	g.Edges = slices.Delete(g.Edges, at, at+1)
	return api.OK
}

// addLabel adds the label to n.
func addLabel(n *api.Node, label string) api.Errno {
	at, found := slices.BinarySearch(n.Labels, label)
	if found {
		return api.ErrTwice
	}
	if len(n.Labels) == api.MaxLabels {
		return api.ErrFull
	}
	n.Labels = slices.Insert(n.Labels, at, label)
	return api.OK
}

// delLabel removes the label from n.
func delLabel(n *api.Node, label string) api.Errno {
	at, found := slices.BinarySearch(n.Labels, label)
	if !found {
		return api.ErrNone
	}
	n.Labels = slices.Delete(n.Labels, at, at+1)
	return api.OK
}

// setProp gives the property with that key in l the value v. If v is null, it removes the property.
func setProp(l *[]api.Prop, key string, v api.Value) api.Errno {
	at, found := slices.BinarySearchFunc(*l, key, func(p api.Prop, key string) int { return cmp.Compare(p.Key, key) })
	switch {
	case found && isNull(v):
		*l = slices.Delete(*l, at, at+1)
	case found:
		(*l)[at].V = v
	case isNull(v):
		// There is nothing to remove.
	case len(*l) == api.MaxProps:
		return api.ErrFull
	default:
		*l = slices.Insert(*l, at, api.Prop{Key: key, V: v})
	}
	return api.OK
}

// findNode returns the index of the node with that id and true, or the index where it would be and false.
func findNode(g *api.Graph, id int) (int, bool) {
	return slices.BinarySearchFunc(g.Nodes, id, func(n api.Node, id int) int { return cmp.Compare(n.Id, id) })
}

// findEdge returns the index of the edge with that id and true, or the index where it would be and false.
func findEdge(g *api.Graph, id int) (int, bool) {
	return slices.BinarySearchFunc(g.Edges, id, func(e api.Edge, id int) int { return cmp.Compare(e.Id, id) })
}

// hasNode reports whether g has a node with that id.
func hasNode(g *api.Graph, id int) bool {
	_, found := findNode(g, id)
	return found
}

// isUsed reports whether an edge begins or ends at the node with that id.
func isUsed(g *api.Graph, id int) bool {
	return slices.ContainsFunc(g.Edges, func(e api.Edge) bool { return e.From == id || e.To == id })
}
