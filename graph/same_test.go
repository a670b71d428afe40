package graph_test

import (
	"graphdb/api"
	"graphdb/graph"
	"testing"
)

// variants returns the sample and graphs that differ from it, and from each other, in some field.
func variants() []api.Graph {
	all := []api.Graph{sample()}
	for _, change := range []func(g *api.Graph){
		func(g *api.Graph) { g.NextNode = 11 },
		func(g *api.Graph) { g.NextEdge = 21 },
		func(g *api.Graph) { g.NextNode, g.NextEdge = 20, 10 },
		func(g *api.Graph) { *g = api.Graph{} },
		func(g *api.Graph) { *g = graph.New() },
		// Nodes.
		func(g *api.Graph) { g.Nodes = nil },
		func(g *api.Graph) { g.Nodes = g.Nodes[:3] },
		func(g *api.Graph) { g.Nodes = g.Nodes[1:] },
		func(g *api.Graph) { g.Nodes = append(g.Nodes, api.Node{}) },
		func(g *api.Graph) { g.Nodes[0], g.Nodes[1] = g.Nodes[1], g.Nodes[0] },
		func(g *api.Graph) { g.Nodes[0].Id = 2 },
		func(g *api.Graph) { g.Nodes[3].Id = 8 },
		func(g *api.Graph) { g.Nodes[3].Id = -9 },
		func(g *api.Graph) { g.Nodes[0].Labels = nil },
		func(g *api.Graph) { g.Nodes[0].Labels = g.Nodes[0].Labels[:2] },
		func(g *api.Graph) { g.Nodes[0].Labels[0] = "a" },
		func(g *api.Graph) { g.Nodes[3].Labels[1] = "b" },
		func(g *api.Graph) { g.Nodes[3].Labels[0], g.Nodes[3].Labels[1] = "a", "C" },
		func(g *api.Graph) { g.Nodes[2].Labels = []string{""} },
		func(g *api.Graph) { g.Nodes[0].Props = nil },
		func(g *api.Graph) { g.Nodes[0].Props = g.Nodes[0].Props[1:] },
		func(g *api.Graph) {
			g.Nodes[0].Props[0], g.Nodes[0].Props[1] = g.Nodes[0].Props[1], g.Nodes[0].Props[0]
		},
		func(g *api.Graph) { g.Nodes[0].Props[2].Key = "d" },
		func(g *api.Graph) { g.Nodes[3].Props[0].Key = "K" },
		func(g *api.Graph) { g.Nodes[2].Props = []api.Prop{{}} },
		// Edges.
		func(g *api.Graph) { g.Edges = nil },
		func(g *api.Graph) { g.Edges = g.Edges[:6] },
		func(g *api.Graph) { g.Edges = g.Edges[1:] },
		func(g *api.Graph) { g.Edges = append(g.Edges, api.Edge{}) },
		func(g *api.Graph) { g.Edges[1], g.Edges[2] = g.Edges[2], g.Edges[1] },
		func(g *api.Graph) { g.Edges[0].Id = 1 },
		func(g *api.Graph) { g.Edges[6].Id = 18 },
		func(g *api.Graph) { g.Edges[0].From = 9 },
		func(g *api.Graph) { g.Edges[0].To = 9 },
		func(g *api.Graph) { g.Edges[0].From, g.Edges[0].To = 1, 3 },
		func(g *api.Graph) { g.Edges[6].To = 3 },
		func(g *api.Graph) { g.Edges[0].Type = "t" },
		func(g *api.Graph) { g.Edges[6].Type = "" },
		func(g *api.Graph) { g.Edges[0].Props = nil },
		func(g *api.Graph) { g.Edges[0].Props = g.Edges[0].Props[:2] },
		func(g *api.Graph) { g.Edges[0].Props[0].Key = "A" },
		func(g *api.Graph) { g.Edges[1].Props = []api.Prop{{}} },
		func(g *api.Graph) {
			g.Edges[0].Props[0], g.Edges[0].Props[1] = g.Edges[0].Props[1], g.Edges[0].Props[0]
		},
	} {
		all = append(all, sampleWith(change))
	}
	for _, v := range distinctValues() {
		all = append(all, sampleWith(func(g *api.Graph) { g.Nodes[0].Props[0].V = v }), sampleWith(func(g *api.Graph) { g.Edges[6].Props[0].V = v }))
	}
	return all
}

// distinctValues returns values that value.Order tells apart, valid and not, though they agree in all fields but one.
func distinctValues() []api.Value {
	return []api.Value{
		null, boolean(0), integer(0), integer(1), integer(-1), integer(m), ratio(1, 2), ratio(1, 3), ratio(3, 2), str(""), str("1"), str("1 "), node(1), edge(1), list(), path(node(1)), list(node(1)), list(null), list(integer(1)), list(boolean(1)), list(list()), list(list(integer(1)), integer(2)), list(list(integer(2)), integer(2)),
		// Not valid.
		{N: 1}, {D: 1}, {S: "1"}, {L: []api.Value{null}}, boolean(2), integer(m + 1), integer(m + 2), ratio(2, 4), ratio(1, 1), str("\xff"), str("\xfe"), node(0), edge(0), path(), path(null), {Kind: api.VInt, N: 1, D: 1}, {Kind: api.VInt, N: 1, S: "1"}, {Kind: api.VInt, N: 1, L: []api.Value{integer(1)}}, {Kind: api.VInt, N: 1, L: []api.Value{integer(2)}}, {Kind: 9}, {Kind: -1}, {Kind: greatest, N: least}, {Kind: least, N: greatest},
		list(boolean(2)), list(boolean(3)), list(list(list(str("\n")))), list(list(list(str("\t")))),
	}
}

// P7.5: graphs that differ in one field are not the same, and each is the same as its copy.
func TestSame(t *testing.T) {
	all := variants()
	for i, a := range all {
		for j, b := range all {
			if got := graph.Same(a, copied(b)); got != (i == j) {
				t.Errorf("Same(%v, %v) = %v", a, b, got)
			}
		}
	}
}

// P7.5: nil and empty slices are equal at all places, also inside values.
func TestSameOfNilAndEmpty(t *testing.T) {
	a := api.Graph{NextNode: 7, Nodes: []api.Node{{Id: 1, Props: []api.Prop{prop("a", api.Value{Kind: api.VInt}), prop("b", list(list()))}}}, Edges: []api.Edge{{Id: 1, Props: []api.Prop{prop("", str(""))}}, {}}}
	b := api.Graph{NextNode: 7, Nodes: []api.Node{{Id: 1, Labels: []string{}, Props: []api.Prop{prop("a", api.Value{Kind: api.VInt, L: []api.Value{}}), prop("b", list(api.Value{Kind: api.VList, L: []api.Value{}}))}}}, Edges: []api.Edge{{Id: 1, Props: []api.Prop{prop("", api.Value{Kind: api.VStr, L: []api.Value{}})}}, {Props: []api.Prop{}}}}
	if !graph.Same(a, b) || !graph.Same(b, a) {
		t.Error("nil and empty slices make graphs different")
	}
	if !graph.Same(api.Graph{}, api.Graph{Nodes: []api.Node{}, Edges: []api.Edge{}}) || !graph.Same(graph.New(), graph.New()) {
		t.Error("nil and empty slices make empty graphs different")
	}
}

// P7.5: large graphs that differ only at their end.
func TestSameOfLargeGraphs(t *testing.T) {
	a, b := graphOf(2000, 4000), graphOf(2000, 4000)
	if !graph.Same(a, b) {
		t.Error("equal graphs are not the same")
	}
	b.Edges[3999].Type = "U"
	if graph.Same(a, b) || graph.Same(b, a) {
		t.Error("graphs with different edges are the same")
	}
	b = graphOf(2000, 4000)
	b.Nodes[1999].Labels = []string{"A"}
	if graph.Same(a, b) || graph.Same(b, a) {
		t.Error("graphs with different nodes are the same")
	}
}

// P7.5: values nested as deeply as the document allows neither stop Same nor Check.
func TestDeepValues(t *testing.T) {
	deep := func(inner api.Value) api.Graph {
		for range 60000 {
			inner = list(inner)
		}
		return sampleWith(func(g *api.Graph) { g.Nodes[0].Props[0].V = inner })
	}
	if !graph.Same(deep(integer(1)), deep(integer(1))) || graph.Same(deep(integer(1)), deep(integer(2))) {
		t.Error("Same of deep values")
	}
	if r := graph.Check(deep(integer(1))); r != api.ErrType {
		t.Errorf("Check of a deep value = %d", r)
	}
}
