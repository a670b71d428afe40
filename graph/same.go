package graph

import (
	"graphdb/api"
	"graphdb/value"
	"slices"
)

// Same reports whether a and b are equal in all fields.
func Same(a, b api.Graph) bool {
	return a.NextNode == b.NextNode && a.NextEdge == b.NextEdge &&
		slices.EqualFunc(a.Nodes, b.Nodes, sameNode) && slices.EqualFunc(a.Edges, b.Edges, sameEdge)
}

// sameNode reports whether a and b are equal in all fields.
func sameNode(a, b api.Node) bool {
	return a.Id == b.Id && slices.Equal(a.Labels, b.Labels) && sameProps(a.Props, b.Props)
}

// sameEdge reports whether a and b are equal in all fields.
func sameEdge(a, b api.Edge) bool {
	return a.Id == b.Id && a.From == b.From && a.To == b.To && a.Type == b.Type && sameProps(a.Props, b.Props)
}

// sameProps reports whether a and b have the same keys and values, in the same order.
func sameProps(a, b []api.Prop) bool {
	return slices.EqualFunc(a, b, func(p, q api.Prop) bool {
		return p.Key == q.Key && value.Order(p.V, q.V) == 0
	})
}
