package change_test

import (
	"graphdb/api"
	"graphdb/change"
	"graphdb/graph"
	"slices"
	"testing"
)

// texts returns the texts of l.
func texts(l []api.Change) []string {
	var all []string
	for _, c := range l {
		all = append(all, change.Text(c))
	}
	return all
}

// invertIs fails unless Invert of l, made in g, returns want, at and err, and leaves g and l as they are.
func invertIs(t *testing.T, g api.Graph, l []api.Change, want []api.Change, at int, err api.Errno) {
	t.Helper()
	call := func(g api.Graph, l []api.Change) {
		got, i, e := change.Invert(g, l)
		if i != at || e != err || !slices.EqualFunc(got, want, change.Same) {
			t.Errorf("Invert(%s, %q) = %+v, %d, %d, want %+v, %d, %d", brief(g), texts(l), got, i, e, want, at, err)
		}
	}
	if isLarge(g) {
		call(g, l)
		return
	}
	untouched(t, g, func(g api.Graph) {
		untouched(t, l, func(l []api.Change) { call(g, l) })
	})
}

// leadsBack fails unless l can be made in g and leads to a valid graph, from which the inverses lead back to g, except that the next ids stay.
func leadsBack(t *testing.T, g api.Graph, l []api.Change) {
	t.Helper()
	h, _, err := change.ApplyAll(g, l)
	if r := graph.Check(h); err != api.OK || r != api.OK {
		t.Fatalf("ApplyAll(%s, ..) = %s, .., %d, which Check rejects with %d", brief(g), brief(h), err, r)
	}
	back, _, err := change.Invert(g, l)
	if err != api.OK {
		t.Fatalf("Invert(%s, ..) = .., .., %d", brief(g), err)
	}
	for _, c := range back {
		if r := change.Check(c); r != api.OK {
			t.Fatalf("Invert(%s, ..) has the change %+v, which Check rejects with %d", brief(g), c, r)
		}
	}
	got, n, err := change.ApplyAll(h, back)
	want := g
	want.NextNode, want.NextEdge = h.NextNode, h.NextEdge
	if err != api.OK || n != len(back) || !graph.Same(got, want) || h.NextNode < g.NextNode || h.NextEdge < g.NextEdge {
		t.Fatalf("ApplyAll(%s, inverses) = %s, %d, %d, want %s", brief(h), brief(got), n, err, brief(want))
	}
}

// P8.4: the chapter's example.
func TestInvertExample(t *testing.T) {
	g := api.Graph{Nodes: []api.Node{{Id: 1, Labels: []string{"A"}, Props: []api.Prop{prop("k", integer(5))}}}, NextNode: 2, NextEdge: 1}
	back, n, err := change.Invert(g, []api.Change{delNode(1)})
	if got := texts(back); n != 1 || err != api.OK || !slices.Equal(got, []string{"+node 1", "+label 1 A", "set 1 k 5"}) {
		t.Errorf("the inverse of -node 1 is %q, %d, %d", got, n, err)
	}
}

// P8.4, P8.5: the inverse of a single change of each Op.
func TestInverses(t *testing.T) {
	full := sampleWith(func(g *api.Graph) {
		g.Nodes[2].Labels, g.Nodes[2].Props, g.Edges[3].Props = namesFrom(8), propsFrom(16), propsFrom(16)
	})
	var fullNode, fullEdge []api.Change
	for _, s := range namesFrom(8) {
		fullNode = append(fullNode, addLabel(4, s))
	}
	for _, p := range propsFrom(16) {
		fullNode, fullEdge = append(fullNode, setNode(4, p.Key, p.V)), append(fullEdge, setEdge(7, p.Key, p.V))
	}
	for _, c := range []struct {
		g    api.Graph
		c    api.Change
		want []api.Change
	}{
		{sample(), addNode(2), []api.Change{delNode(2)}},
		{sample(), addNode(1000000), []api.Change{delNode(1000000)}},
		{sample(), delNode(4), []api.Change{addNode(4)}},
		{sample(), delNode(5), []api.Change{addNode(5), addLabel(5, "B"), addLabel(5, "b"), setNode(5, "k", integer(0)), setNode(5, "k_", integer(1)), setNode(5, "z9", boolean(0))}},
		{full, delNode(4), append([]api.Change{addNode(4)}, fullNode...)},
		{sample(), addLabel(1, "C"), []api.Change{delLabel(1, "C")}},
		{sample(), addLabel(4, "A"), []api.Change{delLabel(4, "A")}},
		{sample(), delLabel(1, "B"), []api.Change{addLabel(1, "B")}},
		{sample(), delLabel(3, "B"), []api.Change{addLabel(3, "B")}},
		{full, delLabel(4, "n00"), []api.Change{addLabel(4, "n00")}},
		{sample(), setNode(1, "a", integer(7)), []api.Change{setNode(1, "a", boolean(1))}},
		{sample(), setNode(1, "a", boolean(1)), []api.Change{setNode(1, "a", boolean(1))}},
		{sample(), setNode(1, "d", null), []api.Change{setNode(1, "d", str("it's"))}},
		{sample(), setNode(1, "d", hollow(null)), []api.Change{setNode(1, "d", str("it's"))}},
		{sample(), setNode(1, "c", integer(7)), []api.Change{setNode(1, "c", null)}},
		{sample(), setNode(1, "c", null), []api.Change{setNode(1, "c", null)}},
		{sample(), setNode(4, "a", integer(7)), []api.Change{setNode(4, "a", null)}},
		{sample(), setNode(9, "a", integer(7)), []api.Change{setNode(9, "a", integer(9))}},
		{full, setNode(4, "n15", null), []api.Change{setNode(4, "n15", integer(15))}},
		{full, setNode(4, "n16", null), []api.Change{setNode(4, "n16", null)}},
		{sample(), addEdge(1, 1, 3, "V"), []api.Change{delEdge(1)}},
		{sample(), addEdge(1000000, 4, 4, "V"), []api.Change{delEdge(1000000)}},
		{sample(), delEdge(2), []api.Change{addEdge(2, 3, 1, "T"), setEdge(2, "a", integer(1)), setEdge(2, "b", integer(2)), setEdge(2, "d", integer(3))}},
		{sample(), delEdge(5), []api.Change{addEdge(5, 1, 3, "U")}},
		{sample(), delEdge(11), []api.Change{addEdge(11, 7, 3, "u")}},
		{sample(), delEdge(19), []api.Change{addEdge(19, 9, 9, "U"), setEdge(19, "w", str("x"))}},
		{full, delEdge(7), append([]api.Change{addEdge(7, 3, 3, "T")}, fullEdge...)},
		{sample(), setEdge(2, "b", str("")), []api.Change{setEdge(2, "b", integer(2))}},
		{sample(), setEdge(2, "b", null), []api.Change{setEdge(2, "b", integer(2))}},
		{sample(), setEdge(2, "c", str("")), []api.Change{setEdge(2, "c", null)}},
		{sample(), setEdge(2, "c", null), []api.Change{setEdge(2, "c", null)}},
		{sample(), setEdge(5, "w", integer(1)), []api.Change{setEdge(5, "w", null)}},
		{sample(), setEdge(19, "w", integer(1)), []api.Change{setEdge(19, "w", str("x"))}},
		{full, setEdge(7, "n08", integer(1)), []api.Change{setEdge(7, "n08", integer(8))}},
	} {
		invertIs(t, c.g, []api.Change{c.c}, c.want, 1, api.OK)
		leadsBack(t, c.g, []api.Change{c.c})
	}
}

// P8.4, P8.5: the inverses of the changes of a list, the last change's first, each by the graph that the change was made in.
func TestInvertLists(t *testing.T) {
	for _, c := range []struct{ l, want []api.Change }{
		{[]api.Change{addNode(2), addNode(6)}, []api.Change{delNode(6), delNode(2)}},
		{[]api.Change{addNode(2), delNode(2)}, []api.Change{addNode(2), delNode(2)}},
		{[]api.Change{addNode(2), addLabel(2, "A"), setNode(2, "k", integer(1)), delNode(2)}, []api.Change{addNode(2), addLabel(2, "A"), setNode(2, "k", integer(1)), setNode(2, "k", null), delLabel(2, "A"), delNode(2)}},
		{[]api.Change{setNode(9, "a", integer(1)), setNode(9, "a", integer(2)), setNode(9, "a", null), setNode(9, "a", integer(3))}, []api.Change{setNode(9, "a", null), setNode(9, "a", integer(2)), setNode(9, "a", integer(1)), setNode(9, "a", integer(9))}},
		{[]api.Change{delNode(4), addNode(4)}, []api.Change{delNode(4), addNode(4)}},
		{[]api.Change{delNode(4), delNode(5)}, []api.Change{addNode(5), addLabel(5, "B"), addLabel(5, "b"), setNode(5, "k", integer(0)), setNode(5, "k_", integer(1)), setNode(5, "z9", boolean(0)), addNode(4)}},
		{[]api.Change{delEdge(19), delNode(9)}, []api.Change{addNode(9), setNode(9, "a", integer(9)), addEdge(19, 9, 9, "U"), setEdge(19, "w", str("x"))}},
		{[]api.Change{setEdge(19, "a", integer(1)), delEdge(19), addEdge(19, 1, 3, "T")}, []api.Change{delEdge(19), addEdge(19, 9, 9, "U"), setEdge(19, "a", integer(1)), setEdge(19, "w", str("x")), setEdge(19, "a", null)}},
		{[]api.Change{addLabel(3, "A"), delLabel(3, "B"), addLabel(3, "B")}, []api.Change{delLabel(3, "B"), addLabel(3, "B"), delLabel(3, "A")}},
		// A node and an edge with the same id.
		{[]api.Change{setNode(7, "w", integer(1)), setEdge(7, "w", integer(2)), setNode(7, "w", integer(3)), setEdge(7, "w", null)}, []api.Change{setEdge(7, "w", integer(2)), setNode(7, "w", integer(1)), setEdge(7, "w", null), setNode(7, "w", null)}},
	} {
		invertIs(t, sample(), c.l, c.want, len(c.l), api.OK)
		leadsBack(t, sample(), c.l)
	}
}

// P8.4, P8.5: a list with each Op, all of its beginnings, and the inverses of its inverses.
func TestInvertBeginnings(t *testing.T) {
	all, _ := build()
	for n := range len(all) + 1 {
		l := all[:n:n]
		invertIs(t, graph.New(), l, backwards(graph.New(), l), n, api.OK)
		leadsBack(t, graph.New(), l)
		g, _, _ := change.ApplyAll(graph.New(), l)
		back, _, _ := change.Invert(graph.New(), l)
		leadsBack(t, g, back)
	}
}

// P8.5: the next ids do not go back with the inverses.
func TestNextIdsStay(t *testing.T) {
	l := []api.Change{addNode(1000000), addEdge(1000000, 1000000, 1000000, "T")}
	g, _, err := change.ApplyAll(graph.New(), l)
	if err != api.OK || g.NextNode != 1000001 || g.NextEdge != 1000001 {
		t.Fatalf("ApplyAll = %s, %d", brief(g), err)
	}
	back, _, _ := change.Invert(graph.New(), l)
	applyAllIs(t, g, back, api.Graph{NextNode: 1000001, NextEdge: 1000001}, 2, api.OK)
	leadsBack(t, graph.New(), l)
}

// P8.5: what fills a graph, a node or an edge to its limits can be undone, and so can what makes room for something else.
func TestInvertAtLimits(t *testing.T) {
	leadsBack(t, graphOf(2000, 3999), []api.Change{addEdge(4000, 1, 2000, "T"), delEdge(1), addEdge(4001, 2, 2, "T")})
	g := graphOf(2000, 4000)
	for i := range g.Edges {
		g.Edges[i].From, g.Edges[i].To = 1, 2
	}
	leadsBack(t, g, []api.Change{delNode(2000), addNode(2001), delEdge(4000), addEdge(5000, 2001, 2001, "T")})
	full := sampleWith(func(g *api.Graph) {
		g.Nodes[2].Labels, g.Nodes[2].Props, g.Edges[3].Props = namesFrom(8), propsFrom(16), propsFrom(16)
	})
	leadsBack(t, full, []api.Change{delLabel(4, "n00"), addLabel(4, "A"), setNode(4, "n00", null), setNode(4, "A", integer(1)), setEdge(7, "n15", null), setEdge(7, "z", boolean(0)), delNode(4), delEdge(7)})
}
