package graph_test

import (
	"graphdb/api"
	"graphdb/graph"
	"math/rand"
	"slices"
	"testing"
)

// adj returns the entries from id to the nodes and over the edges of l.
func adj(id int, l ...[2]int) []api.Adj {
	var out []api.Adj
	for _, p := range l {
		out = append(out, api.Adj{From: id, To: p[0], Edge: p[1]})
	}
	return out
}

// P7.4: the chapter's example and the sample, which has a loop, parallel edges and edges in both directions.
func TestSteps(t *testing.T) {
	example := api.Graph{NextNode: 3, NextEdge: 3, Nodes: []api.Node{{Id: 1}, {Id: 2}}, Edges: []api.Edge{{Id: 1, From: 1, To: 2, Type: "T"}, {Id: 2, From: 2, To: 2, Type: "T"}}}
	for _, c := range []struct {
		g     api.Graph
		id    int
		types []string
		dir   int
		want  []api.Adj
	}{
		{example, 2, nil, api.Both, adj(2, [2]int{1, 1}, [2]int{2, 2})}, {example, 2, nil, api.Out, adj(2, [2]int{2, 2})}, {example, 2, nil, api.In, adj(2, [2]int{1, 1}, [2]int{2, 2})},
		{sample(), 1, nil, api.Out, adj(1, [2]int{3, 5}, [2]int{3, 6})}, {sample(), 1, nil, api.In, adj(1, [2]int{3, 2})}, {sample(), 1, nil, api.Both, adj(1, [2]int{3, 2}, [2]int{3, 5}, [2]int{3, 6})},
		{sample(), 3, nil, api.Out, adj(3, [2]int{1, 2}, [2]int{3, 7}, [2]int{9, 11})}, {sample(), 3, nil, api.In, adj(3, [2]int{1, 5}, [2]int{1, 6}, [2]int{3, 7}, [2]int{9, 18})},
		{sample(), 3, nil, api.Both, adj(3, [2]int{1, 2}, [2]int{1, 5}, [2]int{1, 6}, [2]int{3, 7}, [2]int{9, 11}, [2]int{9, 18})},
		{sample(), 3, []string{}, api.Both, adj(3, [2]int{1, 2}, [2]int{1, 5}, [2]int{1, 6}, [2]int{3, 7}, [2]int{9, 11}, [2]int{9, 18})},
		{sample(), 9, nil, api.Out, adj(9, [2]int{3, 18}, [2]int{9, 19})}, {sample(), 9, nil, api.In, adj(9, [2]int{3, 11}, [2]int{9, 19})}, {sample(), 9, nil, api.Both, adj(9, [2]int{3, 11}, [2]int{3, 18}, [2]int{9, 19})},
		{sample(), 4, nil, api.Out, nil}, {sample(), 4, nil, api.In, nil}, {sample(), 4, nil, api.Both, nil},
		// By type: one, two, one twice, one that no edge has, and one that differs in case.
		{sample(), 3, []string{"T"}, api.Both, adj(3, [2]int{1, 2}, [2]int{1, 6}, [2]int{3, 7}, [2]int{9, 18})}, {sample(), 3, []string{"u"}, api.Both, adj(3, [2]int{9, 11})}, {sample(), 3, []string{"U"}, api.Both, adj(3, [2]int{1, 5})}, {sample(), 3, []string{"u", "U"}, api.Both, adj(3, [2]int{1, 5}, [2]int{9, 11})},
		{sample(), 3, []string{"T", "T"}, api.In, adj(3, [2]int{1, 6}, [2]int{3, 7}, [2]int{9, 18})}, {sample(), 1, []string{"U", "T", "U"}, api.Out, adj(1, [2]int{3, 5}, [2]int{3, 6})}, {sample(), 3, []string{"V"}, api.Both, nil}, {sample(), 3, []string{""}, api.Both, nil}, {sample(), 9, []string{"V", "U"}, api.Both, adj(9, [2]int{9, 19})},
		// No node, and no graph to speak of.
		{sample(), 2, nil, api.Both, nil}, {sample(), 0, nil, api.Both, nil}, {sample(), -1, nil, api.Out, nil}, {sample(), 10, nil, api.In, nil}, {sample(), least, nil, api.Both, nil}, {sample(), greatest, nil, api.Both, nil}, {graph.New(), 1, nil, api.Both, nil}, {api.Graph{}, 0, nil, api.Both, nil},
		// No direction.
		{sample(), 3, nil, 0, nil}, {sample(), 3, nil, 4, nil}, {sample(), 3, nil, -1, nil}, {sample(), 3, nil, 5, nil}, {sample(), 3, nil, -3, nil}, {sample(), 3, nil, 7, nil}, {sample(), 3, nil, least, nil}, {sample(), 3, nil, greatest, nil}, {sample(), 3, []string{"T"}, 0, nil},
	} {
		if got := graph.Steps(c.g, c.id, c.types, c.dir); !slices.Equal(got, c.want) {
			t.Errorf("Steps(.., %d, %q, %d) = %v, want %v", c.id, c.types, c.dir, got, c.want)
		}
	}
}

// P7.4: graphs that are not valid: edges without nodes, ids that come again or are not in order, and ids at both ends of int.
func TestStepsOfInvalidGraphs(t *testing.T) {
	odd := api.Graph{Edges: []api.Edge{
		{Id: 9, From: 1, To: greatest}, {Id: 3, From: 1, To: least, Type: "\xff"}, {Id: greatest, From: 1, To: 0}, {Id: least, From: 1, To: 0}, {Id: 0, From: 0, To: 1}, {Id: 3, From: 1, To: 1}, {Id: 3, From: 1, To: 1}, {Id: 2, From: 1, To: 1},
	}}
	for _, c := range []struct {
		id    int
		types []string
		dir   int
		want  []api.Adj
	}{
		{1, nil, api.Out, adj(1, [2]int{least, 3}, [2]int{0, least}, [2]int{0, greatest}, [2]int{1, 2}, [2]int{1, 3}, [2]int{1, 3}, [2]int{greatest, 9})},
		{1, nil, api.In, adj(1, [2]int{0, 0}, [2]int{1, 2}, [2]int{1, 3}, [2]int{1, 3})},
		{1, nil, api.Both, adj(1, [2]int{least, 3}, [2]int{0, least}, [2]int{0, 0}, [2]int{0, greatest}, [2]int{1, 2}, [2]int{1, 3}, [2]int{1, 3}, [2]int{greatest, 9})},
		{1, []string{"\xff"}, api.Both, adj(1, [2]int{least, 3})}, {greatest, nil, api.In, adj(greatest, [2]int{1, 9})}, {least, []string{"\xff", "x"}, api.Both, adj(least, [2]int{1, 3})}, {0, []string{""}, api.Both, adj(0, [2]int{1, least}, [2]int{1, 0}, [2]int{1, greatest})}, {2, nil, api.Both, nil},
	} {
		if got := graph.Steps(odd, c.id, c.types, c.dir); !slices.Equal(got, c.want) {
			t.Errorf("Steps(.., %d, %q, %d) = %v, want %v", c.id, c.types, c.dir, got, c.want)
		}
	}
}

// entries returns what Steps is defined to return: each entry is put in front of the first greater one.
func entries(g api.Graph, id int, types []string, dir int) []api.Adj {
	var l []api.Adj
	add := func(to, edge int) {
		at := 0
		for at < len(l) && (l[at].To < to || l[at].To == to && l[at].Edge <= edge) {
			at++
		}
		l = slices.Insert(l, at, api.Adj{From: id, To: to, Edge: edge})
	}
	for _, e := range g.Edges {
		if len(types) > 0 && !slices.Contains(types, e.Type) {
			continue
		}
		switch dir {
		case 1:
			if e.From == id {
				add(e.To, e.Id)
			}
		case 2:
			if e.To == id {
				add(e.From, e.Id)
			}
		case 3:
			if e.From == id {
				add(e.To, e.Id)
			} else if e.To == id {
				add(e.From, e.Id)
			}
		}
	}
	return l
}

// P7.4: any graph, valid or not.
func TestStepsOfAnyGraph(t *testing.T) {
	for _, g := range append(anyGraphs(), validGraphs()...) {
		for _, id := range []int{least, -2, -1, 0, 1, 2, 3, 4, 9, greatest - 1, greatest} {
			for _, types := range [][]string{nil, {}, {"A"}, {"B", "A"}, {"", "\xff", ""}, {"T", "U", "AB", "T"}, {"none"}} {
				for _, dir := range []int{least, -3, -2, -1, 0, 1, 2, 3, 4, 5, greatest} {
					if got, want := graph.Steps(g, id, types, dir), entries(g, id, types, dir); !slices.Equal(got, want) {
						t.Fatalf("Steps(%v, %d, %q, %d) = %v, want %v", g, id, types, dir, got, want)
					}
				}
			}
		}
	}
}

// P7.4: whoever changes a result changes no other result.
func TestStepsAreNew(t *testing.T) {
	g := sample()
	first := graph.Steps(g, 3, nil, api.Both)
	want := slices.Clone(first)
	for i := range first {
		first[i] = api.Adj{From: 77, To: 77, Edge: 77}
	}
	if got := graph.Steps(g, 3, nil, api.Both); !slices.Equal(got, want) {
		t.Errorf("Steps = %v, want %v", got, want)
	}
}

// validGraphs returns pseudorandom valid graphs, from sparse ones to ones with many loops and parallel edges.
func validGraphs() []api.Graph {
	source := rand.New(rand.NewSource(76))
	types := []string{"T", "U", "A"}
	all := []api.Graph{graph.New(), sample(), graphOf(2000, 4000), graphOf(3, 60)}
	for i := range 300 {
		g := api.Graph{NextNode: 1, NextEdge: 1}
		for range 1 + source.Intn(1+i%12) {
			g.NextNode += source.Intn(3)
			g.Nodes = append(g.Nodes, api.Node{Id: g.NextNode})
			g.NextNode++
		}
		for range source.Intn(30) {
			g.NextEdge += source.Intn(3)
			from, to := g.Nodes[source.Intn(len(g.Nodes))].Id, g.Nodes[source.Intn(len(g.Nodes))].Id
			g.Edges = append(g.Edges, api.Edge{Id: g.NextEdge, From: from, To: to, Type: types[source.Intn(3)]})
			g.NextEdge++
		}
		all = append(all, g)
	}
	return all
}

// P7.6: the entries of all nodes in both directions are as many as the edges, and correspond to each other and to Both.
func TestDirectionsCorrespond(t *testing.T) {
	for _, g := range validGraphs() {
		if r := graph.Check(g); r != api.OK {
			t.Fatalf("Check(%v) = %d", g, r)
		}
		if len(g.Nodes) > 100 {
			// All of its nodes would take long; every part of it is alike.
			g.Edges = slices.DeleteFunc(g.Edges, func(e api.Edge) bool { return e.From > 100 || e.To > 100 })
			g.Nodes = g.Nodes[:100]
		}
		for _, types := range [][]string{nil, {"T"}, {"U", "A"}} {
			checkDirections(t, g, types)
		}
	}
}

// checkDirections compares the entries of Out, In and Both of all nodes of the valid graph g.
func checkDirections(t *testing.T, g api.Graph, types []string) {
	edges := 0
	for _, e := range g.Edges {
		if graph.HasType(e, types) {
			edges++
		}
	}
	out, in := 0, map[api.Adj]bool{}
	for _, n := range g.Nodes {
		for _, a := range graph.Steps(g, n.Id, types, api.In) {
			in[a] = true
		}
	}
	for _, n := range g.Nodes {
		outs, ins := graph.Steps(g, n.Id, types, api.Out), graph.Steps(g, n.Id, types, api.In)
		out += len(outs)
		for _, a := range outs {
			if !in[api.Adj{From: a.To, To: a.From, Edge: a.Edge}] {
				t.Fatalf("of %v, %v of Out has no entry of In", g, a)
			}
			if a.From != n.Id || a.To == n.Id && !slices.Contains(ins, a) {
				t.Fatalf("of %v, Out of %d has %v", g, n.Id, a)
			}
		}
		// A loop is in both lists, all other entries in one.
		want := slices.Concat(outs, slices.DeleteFunc(ins, func(a api.Adj) bool { return a.To == n.Id }))
		both := graph.Steps(g, n.Id, types, api.Both)
		if len(both) != len(want) || slices.ContainsFunc(want, func(a api.Adj) bool { return !slices.Contains(both, a) }) {
			t.Fatalf("of %v, Both of %d = %v, want %v in order", g, n.Id, both, want)
		}
	}
	if out != edges || len(in) != edges {
		t.Fatalf("%v has %d edges, %d entries of Out and %d of In", g, edges, out, len(in))
	}
}
