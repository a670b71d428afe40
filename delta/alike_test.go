package delta_test

import (
	"graphdb/api"
	"graphdb/delta"
	"graphdb/graph"
	"math"
	"slices"
	"testing"
)

// nextIds holds ids, possible ones and others, that can stand for the next ids of a graph.
var nextIds = []int{math.MinInt, -1, 0, 1, 2, 40, 50, 51, 1000000, 1000001, 1000002, math.MaxInt}

// variants returns graphs each of which differs from the sample, and from the others, in more than the next ids. Many are not valid.
func variants() []api.Graph {
	var all []api.Graph
	for _, edit := range []func(g *api.Graph){
		func(g *api.Graph) {},
		// Nodes.
		func(g *api.Graph) { g.Nodes = nil },
		func(g *api.Graph) { g.Edges = nil },
		func(g *api.Graph) { *g = api.Graph{} },
		func(g *api.Graph) { g.Nodes = g.Nodes[1:] },
		func(g *api.Graph) { g.Nodes = g.Nodes[:4] },
		func(g *api.Graph) { g.Nodes = append(g.Nodes, node(21, "")) },
		func(g *api.Graph) { g.Nodes = append(g.Nodes, g.Nodes[4]) },
		func(g *api.Graph) { g.Nodes[0], g.Nodes[1] = g.Nodes[1], g.Nodes[0] },
		func(g *api.Graph) { g.Nodes[0].Id = 0 },
		func(g *api.Graph) { g.Nodes[4].Id = 19 },
		func(g *api.Graph) { g.Nodes[4].Id = -20 },
		// Labels.
		func(g *api.Graph) { g.Nodes[0].Labels = nil },
		func(g *api.Graph) { g.Nodes[0].Labels = []string{"A"} },
		func(g *api.Graph) { g.Nodes[0].Labels = []string{"B"} },
		func(g *api.Graph) { g.Nodes[0].Labels = []string{"B", "A"} },
		func(g *api.Graph) { g.Nodes[0].Labels = []string{"A", "B", "B"} },
		func(g *api.Graph) { g.Nodes[2].Labels = []string{""} },
		func(g *api.Graph) { g.Nodes[4].Labels[0] = "c" },
		// Properties of nodes.
		func(g *api.Graph) { g.Nodes[0].Props = nil },
		func(g *api.Graph) { g.Nodes[0].Props = g.Nodes[0].Props[:2] },
		func(g *api.Graph) { g.Nodes[0].Props = g.Nodes[0].Props[1:] },
		func(g *api.Graph) { slices.Reverse(g.Nodes[0].Props) },
		func(g *api.Graph) { g.Nodes[0].Props[2].Key = "C" },
		func(g *api.Graph) { g.Nodes[2].Props = []api.Prop{{}} },
		func(g *api.Graph) { g.Nodes[0].Props[0].V = val(2) },
		func(g *api.Graph) { g.Nodes[0].Props[0].V = val(-1) },
		func(g *api.Graph) { g.Nodes[0].Props[0].V = val(true) },
		func(g *api.Graph) { g.Nodes[0].Props[0].V = val("1") },
		func(g *api.Graph) { g.Nodes[0].Props[0].V = val(nil) },
		func(g *api.Graph) { g.Nodes[0].Props[0].V = api.Value{Kind: api.VNode, N: 1} },
		func(g *api.Graph) { g.Nodes[0].Props[0].V = api.Value{Kind: api.VEdge, N: 1} },
		func(g *api.Graph) { g.Nodes[0].Props[0].V = api.Value{Kind: api.VRat, N: 1, D: 1} },
		func(g *api.Graph) { g.Nodes[0].Props[0].V = api.Value{Kind: api.VRat, N: 1, D: 2} },
		func(g *api.Graph) { g.Nodes[0].Props[0].V = api.Value{Kind: api.VInt, N: 1, D: 1} },
		func(g *api.Graph) { g.Nodes[0].Props[0].V = api.Value{Kind: api.VInt, N: 1, S: "1"} },
		func(g *api.Graph) { g.Nodes[0].Props[0].V = api.Value{Kind: api.VInt, N: 1, L: []api.Value{val(1)}} },
		func(g *api.Graph) { g.Nodes[0].Props[0].V = api.Value{Kind: api.VList, L: []api.Value{val(1)}} },
		func(g *api.Graph) { g.Nodes[0].Props[0].V = api.Value{Kind: api.VList, L: []api.Value{val(true)}} },
		func(g *api.Graph) { g.Nodes[0].Props[0].V = api.Value{Kind: 9, N: 1} },
		func(g *api.Graph) { g.Nodes[0].Props[0].V = api.Value{Kind: math.MinInt} },
		func(g *api.Graph) { g.Nodes[0].Props[1].V = val(1) },
		func(g *api.Graph) { g.Nodes[0].Props[1].V = val(false) },
		func(g *api.Graph) { g.Nodes[0].Props[2].V = val("X") },
		func(g *api.Graph) { g.Nodes[4].Props[0].V = val(nil) },
		// Edges.
		func(g *api.Graph) { g.Edges = g.Edges[1:] },
		func(g *api.Graph) { g.Edges = g.Edges[:3] },
		func(g *api.Graph) { g.Edges = append(g.Edges, edge(31, 1, 1, "T")) },
		func(g *api.Graph) { g.Edges = append(g.Edges, g.Edges[3]) },
		func(g *api.Graph) { g.Edges[1], g.Edges[2] = g.Edges[2], g.Edges[1] },
		func(g *api.Graph) { g.Edges[0].Id = 2 },
		func(g *api.Graph) { g.Edges[0].From = 2 },
		func(g *api.Graph) { g.Edges[0].From = 0 },
		func(g *api.Graph) { g.Edges[0].To = 1 },
		func(g *api.Graph) { g.Edges[0].To = -10 },
		func(g *api.Graph) { g.Edges[0].From, g.Edges[0].To = 10, 1 },
		func(g *api.Graph) { g.Edges[0].Type = "t" },
		func(g *api.Graph) { g.Edges[3].Type = "" },
		func(g *api.Graph) { g.Edges[0].Props = nil },
		func(g *api.Graph) { g.Edges[0].Props = g.Edges[0].Props[:1] },
		func(g *api.Graph) { g.Edges[0].Props = g.Edges[0].Props[1:] },
		func(g *api.Graph) { slices.Reverse(g.Edges[0].Props) },
		func(g *api.Graph) { g.Edges[0].Props[0].Key = "b" },
		func(g *api.Graph) { g.Edges[0].Props[0].V = val(true) },
		func(g *api.Graph) { g.Edges[0].Props[1].V = val("") },
		func(g *api.Graph) { g.Edges[1].Props = []api.Prop{{}} },
		func(g *api.Graph) { g.Edges[2].Props[0].V = val(nil) },
		func(g *api.Graph) { g.Edges[2].Props[0].V = val(0) },
	} {
		all = append(all, sampleWith(edit))
	}
	return all
}

// P11.1: every two variants differ, with equal next ids and with others, and each is alike itself.
func TestAlikeVariants(t *testing.T) {
	all := variants()
	for i, a := range all {
		for j, b := range all[:i+1] {
			alikeIs(t, a, b, i == j)
			b.NextNode, b.NextEdge = 0, 1000001
			alikeIs(t, a, b, i == j)
		}
	}
}

// P11.1: next ids of any kind are ignored, both of them, of graphs that are valid and of others.
func TestAlikeIgnoresNextIds(t *testing.T) {
	for _, g := range []api.Graph{sample(), {}, graph.New(), variants()[7], {Nodes: make([]api.Node, 3), Edges: make([]api.Edge, 2)}} {
		for _, n := range nextIds {
			for _, e := range nextIds {
				h := g
				h.NextNode, h.NextEdge = n, e
				alikeIs(t, g, h, true)
				alikeIs(t, sampleWith(func(g *api.Graph) { g.Nodes[3].Labels = nil }), h, false)
			}
		}
	}
	// A next id is not exchanged with the other one, or with an id.
	a, b := api.Graph{Nodes: nodes(node(3, "")), NextNode: 4, NextEdge: 7}, api.Graph{Nodes: nodes(node(4, "")), NextNode: 4, NextEdge: 7}
	alikeIs(t, a, b, false)
	b.NextNode, b.NextEdge = 7, 4
	alikeIs(t, a, b, false)
}

// P11.1: nil and empty slices are the same, wherever they stand, also in the list of a value.
func TestAlikeWithoutElements(t *testing.T) {
	alikeIs(t, api.Graph{}, api.Graph{Nodes: []api.Node{}, Edges: []api.Edge{}}, true)
	a := api.Graph{Nodes: []api.Node{{Id: 1}}, Edges: []api.Edge{{Id: 1}}}
	b := api.Graph{Nodes: []api.Node{{Id: 1, Labels: []string{}, Props: []api.Prop{}}}, Edges: []api.Edge{{Id: 1, Props: []api.Prop{}}}}
	alikeIs(t, a, b, true)
	alikeIs(t, api.Graph{Nodes: nodes(node(1, "", prop("k", 1)))}, api.Graph{Nodes: nodes(node(1, "", prop("k", hollow(1))))}, true)
	alikeIs(t, api.Graph{Edges: []api.Edge{edge(1, 1, 1, "T", prop("k", ""))}}, api.Graph{Edges: []api.Edge{edge(1, 1, 1, "T", prop("k", hollow("")))}}, true)
}

// P11.1: graphs beyond all limits are compared, too.
func TestAlikeOfLargeGraphs(t *testing.T) {
	a := api.Graph{Nodes: make([]api.Node, 70000), Edges: make([]api.Edge, 70000)}
	b := copied(a)
	if !delta.Alike(a, b) {
		t.Error("Alike of two graphs with 70000 empty nodes and edges is false")
	}
	b.Edges[69999].Id = 1
	if delta.Alike(a, b) {
		t.Error("Alike does not find another last edge")
	}
	if b = copied(a); delta.Alike(a, api.Graph{Nodes: b.Nodes, Edges: b.Edges[1:]}) || delta.Alike(api.Graph{Nodes: b.Nodes[1:], Edges: b.Edges}, a) {
		t.Error("Alike does not find one element less")
	}
}
