package change_test

import (
	"graphdb/api"
	"graphdb/change"
	"graphdb/graph"
	"slices"
	"testing"
)

// applyAllIs fails unless ApplyAll of l to g returns want, at and err, and leaves g and l as they are.
func applyAllIs(t *testing.T, g api.Graph, l []api.Change, want api.Graph, at int, err api.Errno) {
	t.Helper()
	call := func(g api.Graph, l []api.Change) {
		got, i, e := change.ApplyAll(g, l)
		if i != at || e != err || !graph.Same(got, want) {
			t.Errorf("ApplyAll(%s, %+v) = %s, %d, %d, want %s, %d, %d", brief(g), l, brief(got), i, e, brief(want), at, err)
		}
	}
	if isLarge(g) {
		call(g, l)
		return
	}
	untouched(t, g, func(g api.Graph) {
		untouched(t, l, func(l []api.Change) { call(g, l) })
	})
}

// build returns a list of changes of each Op, which can be made in the empty graph, and the graph that they lead to.
func build() ([]api.Change, api.Graph) {
	l := []api.Change{
		addNode(1), addNode(4), addLabel(4, "B"), addLabel(4, "A"), setNode(4, "k", integer(1)), addEdge(2, 1, 4, "T"), setEdge(2, "w", str("x")), setNode(4, "k", integer(2)), setNode(4, "z", null), addNode(2), addEdge(7, 2, 2, "U"), delEdge(7), delNode(2), delLabel(4, "B"), setEdge(2, "a", boolean(1)), setEdge(2, "w", null),
	}
	return l, api.Graph{
		Nodes:    []api.Node{{Id: 1}, {Id: 4, Labels: []string{"A"}, Props: []api.Prop{prop("k", integer(2))}}},
		Edges:    []api.Edge{{Id: 2, From: 1, To: 4, Type: "T", Props: []api.Prop{prop("a", boolean(1))}}},
		NextNode: 5, NextEdge: 8,
	}
}

// P8.3: the changes are made in order, each in the graph that the one before it left.
func TestApplyAll(t *testing.T) {
	l, want := build()
	applyAllIs(t, graph.New(), l, want, len(l), api.OK)
	// The same list again: its first change can't be made any more.
	applyAllIs(t, want, l, api.Graph{}, 0, api.ErrTwice)
	// In another order.
	turned := slices.Clone(l)
	slices.Reverse(turned)
	applyAllIs(t, graph.New(), turned, api.Graph{}, 0, api.ErrEdge)
	applyAllIs(t, graph.New(), []api.Change{addNode(1), setNode(1, "k", integer(1)), setNode(1, "k", integer(2)), setNode(1, "k", integer(3))}, api.Graph{Nodes: []api.Node{{Id: 1, Props: []api.Prop{prop("k", integer(3))}}}, NextNode: 2, NextEdge: 1}, 4, api.OK)
	applyAllIs(t, graph.New(), []api.Change{addNode(9), delNode(9), addNode(3), delNode(3)}, api.Graph{NextNode: 10, NextEdge: 1}, 4, api.OK)
}

// P8.3: no changes at all, of graphs that are valid and that are not.
func TestApplyNone(t *testing.T) {
	for _, none := range [][]api.Change{nil, {}} {
		for _, g := range []api.Graph{graph.New(), sample(), {NextNode: 1000001, NextEdge: 77}} {
			applyAllIs(t, g, none, g, 0, api.OK)
			invertIs(t, g, none, nil, 0, api.OK)
		}
		for want, graphs := range broken() {
			for _, g := range graphs {
				applyAllIs(t, g, none, api.Graph{}, 0, want)
				invertIs(t, g, none, nil, 0, want)
			}
		}
	}
}

// P8.3, P8.4: the error of a graph that is not valid comes first, with the index 0, whatever the changes are.
func TestListsOnBrokenGraphs(t *testing.T) {
	all, _ := build()
	for want, graphs := range broken() {
		for _, g := range graphs {
			for _, l := range [][]api.Change{all, {addNode(2)}, {{}}, {addNode(2), {}}, {delNode(2), delNode(2)}, {addNode(2), addLabel(2, "_")}} {
				applyAllIs(t, g, l, api.Graph{}, 0, want)
				invertIs(t, g, l, nil, 0, want)
			}
		}
	}
}

// P8.3, P8.4: the first change that fails decides, wherever it stands, and not one behind it.
func TestFirstFailure(t *testing.T) {
	all, _ := build()
	for _, f := range []struct {
		c    api.Change
		want api.Errno
	}{
		{api.Change{}, api.ErrArg}, {api.Change{Op: 9, Id: 1}, api.ErrArg}, {addNode(1000001), api.ErrArg}, {addLabel(9, "_"), api.ErrName}, {setNode(9, "k", node(1)), api.ErrType}, {delNode(9), api.ErrNode}, {addLabel(9, "A"), api.ErrNode}, {setNode(9, "k", null), api.ErrNode}, {addEdge(9, 9, 9, "T"), api.ErrNode}, {delEdge(9), api.ErrEdge}, {setEdge(9, "k", null), api.ErrEdge},
	} {
		for at := range len(all) + 1 {
			l := slices.Insert(slices.Clone(all), at, f.c)
			applyAllIs(t, graph.New(), l, api.Graph{}, at, f.want)
			invertIs(t, graph.New(), l, nil, at, f.want)
			for _, second := range []api.Change{{}, addLabel(1, "_"), setNode(9, "k", node(1)), delNode(9), delEdge(9), f.c} {
				l := append(slices.Clone(l), second)
				applyAllIs(t, graph.New(), l, api.Graph{}, at, f.want)
				invertIs(t, graph.New(), l, nil, at, f.want)
			}
		}
	}
}

// P8.3, P8.4: changes that can be made once only, at the first, a middle and the last place.
func TestFailuresInTurn(t *testing.T) {
	for _, c := range []struct {
		l    []api.Change
		at   int
		want api.Errno
	}{
		{[]api.Change{delEdge(2), delEdge(2)}, 1, api.ErrEdge},
		{[]api.Change{addNode(2), addNode(2), addNode(6)}, 1, api.ErrTwice},
		{[]api.Change{delNode(4), addEdge(1, 4, 4, "T")}, 1, api.ErrNode},
		{[]api.Change{delNode(9), delEdge(19), delNode(9)}, 0, api.ErrUsed},
		{[]api.Change{delEdge(19), delNode(9), delNode(9)}, 2, api.ErrNode},
		{[]api.Change{addEdge(1, 4, 5, "T"), delNode(4)}, 1, api.ErrUsed},
		{[]api.Change{addEdge(1, 4, 5, "T"), delNode(5)}, 1, api.ErrUsed},
		{[]api.Change{addEdge(1, 4, 5, "T"), delEdge(1), delNode(5), delNode(4), setEdge(1, "k", null)}, 4, api.ErrEdge},
		{[]api.Change{addLabel(4, "A"), addLabel(4, "B"), addLabel(4, "A")}, 2, api.ErrTwice},
		{[]api.Change{delLabel(3, "B"), delLabel(3, "B"), delLabel(3, "B")}, 1, api.ErrNone},
		{[]api.Change{addNode(2), delLabel(2, "B")}, 1, api.ErrNone},
	} {
		applyAllIs(t, sample(), c.l, api.Graph{}, c.at, c.want)
		invertIs(t, sample(), c.l, nil, c.at, c.want)
	}
}

// P8.3: limits that are reached and left in the course of a list.
func TestLimitsInTurn(t *testing.T) {
	g, _, err := change.ApplyAll(graphOf(1999, 3999), []api.Change{addNode(3000), addEdge(5000, 1, 3000, "T")})
	if err != api.OK || len(g.Nodes) != 2000 || len(g.Edges) != 4000 {
		t.Fatalf("the last node and edge: %s, %d", brief(g), err)
	}
	applyAllIs(t, graphOf(1999, 3999), []api.Change{addNode(3000), addNode(3001)}, api.Graph{}, 1, api.ErrFull)
	applyAllIs(t, graphOf(1999, 3999), []api.Change{addEdge(5000, 1, 1, "T"), addEdge(5001, 1, 1, "T")}, api.Graph{}, 1, api.ErrFull)
	h, n, err := change.ApplyAll(g, []api.Change{delEdge(5000), delNode(3000), addNode(2500), addEdge(4500, 2500, 2500, "T")})
	if err != api.OK || n != 4 || len(h.Nodes) != 2000 || len(h.Edges) != 4000 || h.NextNode != 3001 || h.NextEdge != 5001 || graph.Check(h) != api.OK {
		t.Errorf("in place of the last node and edge: %s, %d, %d", brief(h), n, err)
	}
	var labels, props []api.Change
	for _, s := range namesFrom(8) {
		labels = append(labels, addLabel(4, s))
	}
	for _, s := range namesFrom(16) {
		props = append(props, setNode(4, s, integer(1)))
	}
	full := sampleWith(func(g *api.Graph) { g.Nodes[2].Labels = namesFrom(8) })
	applyAllIs(t, sample(), labels, full, 8, api.OK)
	applyAllIs(t, sample(), append(labels, addLabel(4, "A")), api.Graph{}, 8, api.ErrFull)
	applyAllIs(t, sample(), append(labels, delLabel(4, "n00"), addLabel(4, "A")), sampleWith(func(g *api.Graph) { g.Nodes[2].Labels = append([]string{"A"}, namesFrom(8)[1:]...) }), 10, api.OK)
	applyAllIs(t, sample(), append(props, setNode(4, "A", integer(1))), api.Graph{}, 16, api.ErrFull)
	applyAllIs(t, sample(), append(props, setNode(4, "A", null), setNode(4, "n00", integer(2)), setNode(4, "n15", null), setNode(4, "A", integer(1)), setNode(4, "n15", integer(1))), api.Graph{}, 20, api.ErrFull)
}

// everything returns the changes that build the largest graph, and the graph.
func everything() ([]api.Change, api.Graph) {
	g := graphOf(api.MaxNodes, api.MaxEdges)
	var l []api.Change
	for i := range g.Nodes {
		g.Nodes[i].Labels, g.Nodes[i].Props = []string{"A"}, []api.Prop{prop("k", integer(i))}
		// The ids come in no order.
		id := (i*7)%api.MaxNodes + 1
		l = append(l, addNode(id), addLabel(id, "A"), setNode(id, "k", integer(id-1)))
	}
	for i := range g.Edges {
		g.Edges[i].Props = []api.Prop{prop("w", integer(i))}
		e := g.Edges[(i*7)%api.MaxEdges]
		l = append(l, addEdge(e.Id, e.From, e.To, e.Type), setEdge(e.Id, "w", integer(e.Id-1)))
	}
	return l, g
}

// P8.3, P8.4, P8.5: the changes that build the largest graph, and those that take it down.
func TestLargestGraph(t *testing.T) {
	l, g := everything()
	applyAllIs(t, graph.New(), l, g, len(l), api.OK)
	back, n, err := change.Invert(graph.New(), l)
	if err != api.OK || n != len(l) || len(back) != len(l) {
		t.Fatalf("Invert returned %d changes, %d, %d", len(back), n, err)
	}
	applyAllIs(t, g, back, api.Graph{NextNode: api.MaxNodes + 1, NextEdge: api.MaxEdges + 1}, len(back), api.OK)
	leadsBack(t, g, back)
}
