package change

import (
	"graphdb/api"
	"graphdb/graph"
	"slices"
)

// Invert returns the changes that undo the changes of l, made in g, and the number of the latter. If one of them can't be made, it returns its index and its error.
func Invert(g api.Graph, l []api.Change) ([]api.Change, int, api.Errno) {
	if _, at, err := ApplyAll(g, l); err != api.OK {
		return nil, at, err
	}
	x := copyOf(g)
	undo := make([][]api.Change, len(l))
	for i, c := range l {
		undo[len(l)-1-i] = inverse(x, c)
		edit(&x, c)
	}
	return slices.Concat(undo...), len(l), api.OK
}

// inverse returns the changes that undo c, which can be made in the valid graph x.
func inverse(x api.Graph, c api.Change) []api.Change {
	switch c.Op {
	case api.AddNode:
		return []api.Change{{Op: api.DelNode, Id: c.Id}}
	case api.DelNode:
		return rebuildNode(x, c.Id)
	case api.AddLabel:
		return []api.Change{{Op: api.DelLabel, Id: c.Id, Name: c.Name}}
	case api.DelLabel:
		return []api.Change{{Op: api.AddLabel, Id: c.Id, Name: c.Name}}
	case api.SetNode:
		n, _ := graph.Node(x, c.Id)
		return []api.Change{{Op: api.SetNode, Id: c.Id, Name: c.Name, V: graph.Prop(n.Props, c.Name)}}
	case api.AddEdge:
		return []api.Change{{Op: api.DelEdge, Id: c.Id}}
	case api.DelEdge:
		return rebuildEdge(x, c.Id)
	}
	e, _ := graph.Edge(x, c.Id)
	return []api.Change{{Op: api.SetEdge, Id: c.Id, Name: c.Name, V: graph.Prop(e.Props, c.Name)}}
}

// rebuildNode returns the changes that add the node with that id as it is in x.
func rebuildNode(x api.Graph, id int) []api.Change {
	n, _ := graph.Node(x, id)
	l := []api.Change{{Op: api.AddNode, Id: id}}
	for _, label := range n.Labels {
		l = append(l, api.Change{Op: api.AddLabel, Id: id, Name: label})
	}
	return append(l, setAll(api.SetNode, id, n.Props)...)
}

// rebuildEdge returns the changes that add the edge with that id as it is in x.
func rebuildEdge(x api.Graph, id int) []api.Change {
	e, _ := graph.Edge(x, id)
	l := []api.Change{{Op: api.AddEdge, Id: id, From: e.From, To: e.To, Name: e.Type}}
	return append(l, setAll(api.SetEdge, id, e.Props)...)
}

// setAll returns the changes with that Op that set the properties of l.
func setAll(op, id int, l []api.Prop) []api.Change {
	var all []api.Change
	for _, p := range l {
		all = append(all, api.Change{Op: op, Id: id, Name: p.Key, V: p.V})
	}
	return all
}
