package graph

import (
	"cmp"
	"graphdb/api"
	"graphdb/value"
	"slices"
)

// Check returns OK if g is valid, and otherwise the first error of the list in the document.
func Check(g api.Graph) api.Errno {
	if len(g.Nodes) > api.MaxNodes || len(g.Edges) > api.MaxEdges {
		return api.ErrLong
	}
	if !isNext(g.NextNode) || !isNext(g.NextEdge) {
		return api.ErrArg
	}
	if err := checkNodes(g); err != api.OK {
		return err
	}
	return checkEdges(g)
}

// isNext reports whether id can be the id that is assigned next: one more than the greatest id says that all are used up.
func isNext(id int) bool {
	return 1 <= id && id <= api.MaxId+1
}

// checkNodes returns the first error of the nodes of g, or OK.
func checkNodes(g api.Graph) api.Errno {
	for i, n := range g.Nodes {
		if i > 0 && n.Id <= g.Nodes[i-1].Id {
			return api.ErrOrder
		}
		if n.Id < 1 || n.Id >= g.NextNode {
			return api.ErrArg
		}
		if err := checkContent(n.Labels, n.Props); err != api.OK {
			return err
		}
	}
	return api.OK
}

// checkEdges returns the first error of the edges of g, or OK. The nodes of g have no error.
func checkEdges(g api.Graph) api.Errno {
	for i, e := range g.Edges {
		if i > 0 && e.Id <= g.Edges[i-1].Id {
			return api.ErrOrder
		}
		if e.Id < 1 || e.Id >= g.NextEdge {
			return api.ErrArg
		}
		if !hasNode(g.Nodes, e.From) || !hasNode(g.Nodes, e.To) {
			return api.ErrNode
		}
		if !Name(e.Type) {
			return api.ErrName
		}
		if err := checkContent(nil, e.Props); err != api.OK {
			return err
		}
	}
	return api.OK
}

// hasNode reports whether id is the id of a node of l, whose ids are increasing.
func hasNode(l []api.Node, id int) bool {
	_, found := slices.BinarySearchFunc(l, id, func(n api.Node, id int) int { return cmp.Compare(n.Id, id) })
	return found
}

// checkContent returns the first error of the labels and properties of a node, or of an edge, which has no labels.
func checkContent(labels []string, props []api.Prop) api.Errno {
	if len(labels) > api.MaxLabels || len(props) > api.MaxProps {
		return api.ErrLong
	}
	keys := keysOf(props)
	if !areNames(labels) || !areNames(keys) {
		return api.ErrName
	}
	if !areIncreasing(labels) || !areIncreasing(keys) {
		return api.ErrOrder
	}
	for _, p := range props {
		if !value.Plain(p.V) {
			return api.ErrType
		}
	}
	return api.OK
}

// keysOf returns the keys of l.
func keysOf(l []api.Prop) []string {
	keys := make([]string, len(l))
	for i, p := range l {
		keys[i] = p.Key
	}
	return keys
}

// areNames reports whether all strings of l are names.
func areNames(l []string) bool {
	for _, s := range l {
		if !Name(s) {
			return false
		}
	}
	return true
}

// areIncreasing reports whether each string of l is greater than the one before it.
func areIncreasing(l []string) bool {
	for i := 1; i < len(l); i++ {
		if l[i-1] >= l[i] {
			return false
		}
	}
	return true
}
