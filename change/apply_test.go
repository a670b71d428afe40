package change_test

import (
	"fmt"
	"graphdb/api"
	"graphdb/change"
	"graphdb/graph"
	"slices"
	"strings"
	"testing"
)

// prop returns a property.
func prop(key string, v api.Value) api.Prop { return api.Prop{Key: key, V: v} }

// sample returns a valid graph with gaps between the ids, parallel edges, edges in both directions, nodes without edges (4 and 5), a node at which edges only begin (7), one at which they only end (8), and one with nothing but a loop (9).
func sample() api.Graph {
	return api.Graph{
		NextNode: 12,
		NextEdge: 30,
		Nodes: []api.Node{
			{Id: 1, Labels: []string{"A", "B", "D"}, Props: []api.Prop{prop("a", boolean(1)), prop("b", integer(-m)), prop("d", str("it's"))}},
			{Id: 3, Labels: []string{"B"}, Props: []api.Prop{prop("b", str(""))}},
			{Id: 4},
			{Id: 5, Labels: []string{"B", "b"}, Props: []api.Prop{prop("k", integer(0)), prop("k_", integer(1)), prop("z9", boolean(0))}},
			{Id: 7},
			{Id: 8, Labels: []string{"A"}},
			{Id: 9, Props: []api.Prop{prop("a", integer(9))}},
		},
		Edges: []api.Edge{
			{Id: 2, From: 3, To: 1, Type: "T", Props: []api.Prop{prop("a", integer(1)), prop("b", integer(2)), prop("d", integer(3))}},
			{Id: 5, From: 1, To: 3, Type: "U"},
			{Id: 6, From: 1, To: 3, Type: "T", Props: []api.Prop{prop("w", integer(m))}},
			{Id: 7, From: 3, To: 3, Type: "T"},
			{Id: 11, From: 7, To: 3, Type: "u"},
			{Id: 18, From: 3, To: 8, Type: "T"},
			{Id: 19, From: 9, To: 9, Type: "U", Props: []api.Prop{prop("w", str("x"))}},
		},
	}
}

// sampleWith returns the sample as edit leaves it.
func sampleWith(edit func(g *api.Graph)) api.Graph {
	g := sample()
	edit(&g)
	return g
}

// graphOf returns a valid graph with that many nodes and edges.
func graphOf(nodes, edges int) api.Graph {
	g := api.Graph{NextNode: nodes + 1, NextEdge: edges + 1}
	for i := range nodes {
		g.Nodes = append(g.Nodes, api.Node{Id: i + 1})
	}
	for i := range edges {
		g.Edges = append(g.Edges, api.Edge{Id: i + 1, From: i%nodes + 1, To: i*i%nodes + 1, Type: "T"})
	}
	return g
}

// namesFrom returns n names in increasing order.
func namesFrom(n int) []string {
	var l []string
	for i := range n {
		l = append(l, fmt.Sprintf("n%02d", i))
	}
	return l
}

// propsFrom returns n properties with names in increasing order.
func propsFrom(n int) []api.Prop {
	var l []api.Prop
	for i, s := range namesFrom(n) {
		l = append(l, prop(s, integer(i)))
	}
	return l
}

// isLarge reports whether g has so much in it that it should be neither printed nor copied often.
func isLarge(g api.Graph) bool {
	return len(g.Nodes)+len(g.Edges) > 40
}

// brief returns a text for a graph, shorter than what fmt makes of it.
func brief(g api.Graph) string {
	if isLarge(g) {
		return fmt.Sprintf("{%d nodes, %d edges, %d, %d}", len(g.Nodes), len(g.Edges), g.NextNode, g.NextEdge)
	}
	return fmt.Sprintf("%+v", g)
}

// refused fails unless Apply of c to g returns the error want and no graph, and leaves g and c as they are.
func refused(t *testing.T, g api.Graph, c api.Change, want api.Errno) {
	t.Helper()
	applyIs(t, g, c, api.Graph{}, want)
}

// accepted fails unless Apply of c to g returns g as edit leaves it, which is valid, and leaves g and c as they are.
func accepted(t *testing.T, g api.Graph, c api.Change, edit func(g *api.Graph)) {
	t.Helper()
	want := copied(g)
	edit(&want)
	applyIs(t, g, c, want, api.OK)
}

// applyIs fails unless Apply of c to g returns want and err, and leaves g and c as they are.
func applyIs(t *testing.T, g api.Graph, c api.Change, want api.Graph, err api.Errno) {
	t.Helper()
	call := func(g api.Graph) {
		got, e := change.Apply(g, c)
		if e != err || !graph.Same(got, want) {
			t.Errorf("Apply(%s, %+v) = %s, %d, want %s, %d", brief(g), c, brief(got), e, brief(want), err)
		}
		if r := graph.Check(got); e == api.OK && r != api.OK {
			t.Errorf("Apply(%s, %+v) = %s, which Check rejects with %d", brief(g), c, brief(got), r)
		}
	}
	if isLarge(g) {
		call(g)
		return
	}
	untouched(t, g, call)
	untouched(t, c, func(c api.Change) { change.Apply(g, c) })
}

// P8.2: the largest graph stays as it is, too.
func TestLargeGraphStays(t *testing.T) {
	untouched(t, graphOf(1999, 3999), func(g api.Graph) {
		for _, c := range []api.Change{addNode(2000), addEdge(4000, 1, 1, "T"), delEdge(1), addLabel(1, "A"), setNode(7, "k", integer(1)), setEdge(8, "k", integer(1))} {
			if _, err := change.Apply(g, c); err != api.OK {
				t.Errorf("Apply(%+v) = %d", c, err)
			}
		}
	})
}

// P8.2: the chapter's examples.
func TestApplyExamples(t *testing.T) {
	g, err := change.Apply(graph.New(), addNode(3))
	if err != api.OK || !graph.Same(g, api.Graph{Nodes: []api.Node{{Id: 3}}, NextNode: 4, NextEdge: 1}) {
		t.Errorf("+node 3 on the empty graph: %v, %d", g, err)
	}
	g, err = change.Apply(g, delNode(3))
	if err != api.OK || !graph.Same(g, api.Graph{NextNode: 4, NextEdge: 1}) {
		t.Errorf("then -node 3: %v, %d", g, err)
	}
	refused(t, api.Graph{Nodes: []api.Node{{Id: 1}}, Edges: []api.Edge{{Id: 1, From: 1, To: 1, Type: "T"}}, NextNode: 2, NextEdge: 2}, delNode(1), api.ErrUsed)
}

// P8.2
func TestAddNode(t *testing.T) {
	for _, c := range []struct{ id, at, next int }{
		{2, 1, 12}, {6, 4, 12}, {10, 7, 12}, {11, 7, 12}, {12, 7, 13}, {13, 7, 14}, {500, 7, 501}, {999999, 7, 1000000}, {1000000, 7, 1000001},
	} {
		accepted(t, sample(), addNode(c.id), func(g *api.Graph) {
			g.Nodes = slices.Insert(g.Nodes, c.at, api.Node{Id: c.id})
			g.NextNode = c.next
		})
	}
	for _, id := range []int{1, 3, 4, 5, 7, 8, 9} {
		refused(t, sample(), addNode(id), api.ErrTwice)
	}
	for _, id := range []int{1, 2, 1000000} {
		for _, next := range []int{1, 2, 3, 7, 1000000, 1000001} {
			accepted(t, api.Graph{NextNode: next, NextEdge: next}, addNode(id), func(g *api.Graph) {
				g.Nodes = []api.Node{{Id: id}}
				g.NextNode = max(next, id+1)
			})
		}
	}
	// An edge with that id is not in the way.
	accepted(t, sample(), addNode(2), func(g *api.Graph) { g.Nodes = slices.Insert(g.Nodes, 1, api.Node{Id: 2}) })
	accepted(t, sample(), addNode(19), func(g *api.Graph) { g.Nodes, g.NextNode = append(g.Nodes, api.Node{Id: 19}), 20 })
}

// P8.2: as many nodes as a graph can have, and one more.
func TestAddNodeFull(t *testing.T) {
	for _, edges := range []int{0, 4000} {
		for _, id := range []int{2001, 2002, 1000000} {
			refused(t, graphOf(2000, edges), addNode(id), api.ErrFull)
			accepted(t, graphOf(1999, edges), addNode(id), func(g *api.Graph) { g.Nodes, g.NextNode = append(g.Nodes, api.Node{Id: id}), id+1 })
		}
		refused(t, graphOf(2000, edges), addNode(1), api.ErrTwice)
		refused(t, graphOf(2000, edges), addNode(2000), api.ErrTwice)
		refused(t, graphOf(1999, edges), addNode(1999), api.ErrTwice)
	}
	// A gap between the ids is no room for one more.
	g := graphOf(2000, 0)
	for i := range g.Nodes {
		g.Nodes[i].Id = 2 * (i + 1)
	}
	g.NextNode = 4001
	refused(t, g, addNode(1), api.ErrFull)
	refused(t, g, addNode(2001), api.ErrFull)
	refused(t, g, addNode(2000), api.ErrTwice)
}

// P8.2
func TestDelNode(t *testing.T) {
	accepted(t, sample(), delNode(4), func(g *api.Graph) { g.Nodes = slices.Delete(g.Nodes, 2, 3) })
	accepted(t, sample(), delNode(5), func(g *api.Graph) { g.Nodes = slices.Delete(g.Nodes, 3, 4) })
	for _, id := range []int{2, 6, 10, 11, 12, 18, 1000000} {
		refused(t, sample(), delNode(id), api.ErrNode)
	}
	for _, id := range []int{1, 3, 7, 8, 9} {
		refused(t, sample(), delNode(id), api.ErrUsed)
	}
	refused(t, graph.New(), delNode(1), api.ErrNode)
	// A single edge at its first and last place, which begins there, ends there, or both.
	for _, e := range []api.Edge{{Id: 1, From: 1, To: 2, Type: "T"}, {Id: 1, From: 2, To: 1, Type: "T"}, {Id: 1, From: 1, To: 1, Type: "T"}} {
		g := api.Graph{Nodes: []api.Node{{Id: 1}, {Id: 2}, {Id: 3}}, Edges: []api.Edge{e}, NextNode: 4, NextEdge: 2}
		refused(t, g, delNode(1), api.ErrUsed)
		accepted(t, g, delNode(3), func(g *api.Graph) { g.Nodes = g.Nodes[:2] })
		if e.From == e.To {
			accepted(t, g, delNode(2), func(g *api.Graph) { g.Nodes = slices.Delete(g.Nodes, 1, 2) })
		} else {
			refused(t, g, delNode(2), api.ErrUsed)
		}
	}
	// The first, the only and the last node; the next ids stay.
	g := api.Graph{Nodes: []api.Node{{Id: 1, Labels: []string{"A"}}, {Id: 2}, {Id: 1000000, Props: []api.Prop{prop("k", integer(1))}}}, NextNode: 1000001, NextEdge: 5}
	accepted(t, g, delNode(1), func(g *api.Graph) { g.Nodes = g.Nodes[1:] })
	accepted(t, g, delNode(2), func(g *api.Graph) { g.Nodes = slices.Delete(g.Nodes, 1, 2) })
	accepted(t, g, delNode(1000000), func(g *api.Graph) { g.Nodes = g.Nodes[:2] })
	accepted(t, api.Graph{Nodes: []api.Node{{Id: 6}}, NextNode: 7, NextEdge: 1}, delNode(6), func(g *api.Graph) { g.Nodes = nil })
	// The largest graph, where the last edge alone is in the way.
	g = graphOf(2000, 4000)
	for i := range g.Edges {
		g.Edges[i].From, g.Edges[i].To = 1, 2
	}
	g.Edges[3999].To = 2000
	refused(t, g, delNode(2000), api.ErrUsed)
	accepted(t, g, delNode(1999), func(g *api.Graph) { g.Nodes = slices.Delete(g.Nodes, 1998, 1999) })
}

// P8.2
func TestAddLabel(t *testing.T) {
	long := strings.Repeat("x", 20)
	for _, c := range []struct {
		id, node int
		label    string
		at       int
	}{
		{1, 0, "AA", 1}, {1, 0, "C", 2}, {1, 0, "E", 3}, {1, 0, "a", 3}, {1, 0, "A_", 1}, {1, 0, long, 3}, {3, 1, "A", 0}, {3, 1, "D", 1}, {4, 2, "A", 0}, {5, 3, "A", 0}, {5, 3, "C", 1}, {5, 3, "a", 1}, {5, 3, "c", 2}, {9, 6, "Z", 0},
	} {
		accepted(t, sample(), addLabel(c.id, c.label), func(g *api.Graph) {
			n := &g.Nodes[c.node]
			n.Labels = slices.Insert(n.Labels, c.at, c.label)
		})
	}
	for _, c := range []api.Change{addLabel(1, "A"), addLabel(1, "B"), addLabel(1, "D"), addLabel(3, "B"), addLabel(5, "B"), addLabel(5, "b"), addLabel(8, "A")} {
		refused(t, sample(), c, api.ErrTwice)
	}
	// Edge ids are not node ids.
	for _, id := range []int{2, 6, 10, 11, 12, 18, 19, 1000000} {
		refused(t, sample(), addLabel(id, "A"), api.ErrNode)
		refused(t, graph.New(), addLabel(id, "A"), api.ErrNode)
	}
}

// P8.2: as many labels as a node can have, and one more.
func TestAddLabelFull(t *testing.T) {
	for count := range 9 {
		for at := range sample().Nodes {
			g := sampleWith(func(g *api.Graph) { g.Nodes[at].Labels = namesFrom(count) })
			id := g.Nodes[at].Id
			for _, s := range namesFrom(count) {
				refused(t, g, addLabel(id, s), api.ErrTwice)
			}
			for i, s := range []string{"m", "z"} {
				if count == 8 {
					refused(t, g, addLabel(id, s), api.ErrFull)
					continue
				}
				accepted(t, g, addLabel(id, s), func(g *api.Graph) {
					n := &g.Nodes[at]
					n.Labels = slices.Insert(n.Labels, i*count, s)
				})
			}
		}
	}
}

// P8.2
func TestDelLabel(t *testing.T) {
	for at, n := range sample().Nodes {
		for i, s := range n.Labels {
			accepted(t, sample(), delLabel(n.Id, s), func(g *api.Graph) {
				n := &g.Nodes[at]
				n.Labels = slices.Delete(n.Labels, i, i+1)
			})
		}
		for _, s := range []string{"AA", "C", "Z", "a", "k", strings.Repeat("x", 20)} {
			refused(t, sample(), delLabel(n.Id, s), api.ErrNone)
		}
	}
	// A label of other nodes only, and a key.
	for _, c := range []api.Change{delLabel(3, "A"), delLabel(4, "A"), delLabel(8, "B"), delLabel(1, "b"), delLabel(9, "a")} {
		refused(t, sample(), c, api.ErrNone)
	}
	for _, id := range []int{2, 6, 10, 11, 12, 18, 19, 1000000} {
		refused(t, sample(), delLabel(id, "A"), api.ErrNode)
		refused(t, graph.New(), delLabel(id, "A"), api.ErrNode)
	}
	g := sampleWith(func(g *api.Graph) { g.Nodes[2].Labels = namesFrom(8) })
	for i, s := range namesFrom(8) {
		accepted(t, g, delLabel(4, s), func(g *api.Graph) { g.Nodes[2].Labels = slices.Delete(g.Nodes[2].Labels, i, i+1) })
	}
	refused(t, g, delLabel(4, "n08"), api.ErrNone)
	refused(t, g, delLabel(4, "m"), api.ErrNone)
}

// element is a node or an edge of a graph, whose properties are set in the same way.
type element struct {
	what string
	id   int
	// props returns where the properties of the element are in g.
	props func(g *api.Graph) *[]api.Prop
	// set returns the change that sets a property of the element with that id.
	set func(id int, key string, v api.Value) api.Change
}

// elements returns the nodes and edges of the sample.
func elements() []element {
	var all []element
	for i, n := range sample().Nodes {
		all = append(all, element{fmt.Sprint("node ", n.Id), n.Id, func(g *api.Graph) *[]api.Prop { return &g.Nodes[i].Props }, setNode})
	}
	for i, e := range sample().Edges {
		all = append(all, element{fmt.Sprint("edge ", e.Id), e.Id, func(g *api.Graph) *[]api.Prop { return &g.Edges[i].Props }, setEdge})
	}
	return all
}

// P8.2: a property of each node and edge is set that is there, with each value that can be stored, and removed.
func TestSetPresentProperty(t *testing.T) {
	for _, x := range elements() {
		g := sample()
		for i, p := range *x.props(&g) {
			for _, v := range plain() {
				accepted(t, g, x.set(x.id, p.Key, v), func(g *api.Graph) { (*x.props(g))[i].V = v })
			}
			for _, v := range []api.Value{null, hollow(null)} {
				accepted(t, g, x.set(x.id, p.Key, v), func(g *api.Graph) { *x.props(g) = slices.Delete(*x.props(g), i, i+1) })
			}
			// The value that it has.
			accepted(t, g, x.set(x.id, p.Key, p.V), func(g *api.Graph) {})
			for _, v := range odd() {
				refused(t, g, x.set(x.id, p.Key, v), api.ErrType)
			}
		}
	}
}

// P8.2: a property of each node and edge is set that is not there, before, between and behind others, and set to null, which changes nothing.
func TestSetAbsentProperty(t *testing.T) {
	for _, x := range elements() {
		g := sample()
		for _, key := range []string{"A", "aa", "c", "e", "k0", "kk", "x", "z", "z99", strings.Repeat("x", 20), strings.Repeat("Z", 20)} {
			at := 0
			for _, p := range *x.props(&g) {
				if p.Key < key {
					at++
				}
			}
			for _, v := range []api.Value{integer(5), str(""), boolean(0), hollow(str("y"))} {
				accepted(t, g, x.set(x.id, key, v), func(g *api.Graph) { *x.props(g) = slices.Insert(*x.props(g), at, prop(key, v)) })
			}
			for _, v := range []api.Value{null, hollow(null)} {
				accepted(t, g, x.set(x.id, key, v), func(g *api.Graph) {})
			}
		}
		for _, v := range odd() {
			refused(t, g, x.set(x.id, "aa", v), api.ErrType)
		}
		for _, key := range notNames {
			refused(t, g, x.set(x.id, key, integer(1)), api.ErrName)
			refused(t, g, x.set(x.id, key, null), api.ErrName)
		}
	}
}

// P8.2: properties of nodes and edges that are not there, where the other kind has the id or not.
func TestSetPropertyOfNone(t *testing.T) {
	for _, v := range []api.Value{integer(1), null} {
		for _, id := range []int{2, 6, 10, 11, 12, 18, 19, 1000000} {
			refused(t, sample(), setNode(id, "a", v), api.ErrNode)
			refused(t, graph.New(), setNode(id, "a", v), api.ErrNode)
		}
		for _, id := range []int{1, 3, 4, 8, 9, 20, 29, 30, 1000000} {
			refused(t, sample(), setEdge(id, "a", v), api.ErrEdge)
			refused(t, graph.New(), setEdge(id, "a", v), api.ErrEdge)
		}
	}
}

// P8.2: as many properties as a node or an edge can have, and one more.
func TestSetPropertyFull(t *testing.T) {
	for _, x := range elements() {
		for _, count := range []int{1, 8, 15, 16} {
			g := sampleWith(func(g *api.Graph) { *x.props(g) = propsFrom(count) })
			for i, s := range namesFrom(count) {
				accepted(t, g, x.set(x.id, s, str("new")), func(g *api.Graph) { (*x.props(g))[i].V = str("new") })
				accepted(t, g, x.set(x.id, s, null), func(g *api.Graph) { *x.props(g) = slices.Delete(*x.props(g), i, i+1) })
			}
			for i, s := range []string{"m", "z"} {
				accepted(t, g, x.set(x.id, s, null), func(g *api.Graph) {})
				accepted(t, g, x.set(x.id, s, hollow(null)), func(g *api.Graph) {})
				refused(t, g, x.set(x.id, s, ratio(1, 2)), api.ErrType)
				if count == 16 {
					refused(t, g, x.set(x.id, s, integer(1)), api.ErrFull)
					refused(t, g, x.set(x.id, s, boolean(0)), api.ErrFull)
					continue
				}
				accepted(t, g, x.set(x.id, s, integer(1)), func(g *api.Graph) { *x.props(g) = slices.Insert(*x.props(g), i*count, prop(s, integer(1))) })
			}
		}
	}
}

// P8.2
func TestAddEdge(t *testing.T) {
	for _, c := range []struct{ id, at, next int }{
		{1, 0, 30}, {3, 1, 30}, {8, 4, 30}, {12, 5, 30}, {20, 7, 30}, {29, 7, 30}, {30, 7, 31}, {31, 7, 32}, {999999, 7, 1000000}, {1000000, 7, 1000001},
	} {
		for _, ends := range [][2]int{{1, 3}, {3, 1}, {4, 4}, {9, 1}, {1, 9}, {4, 5}} {
			accepted(t, sample(), addEdge(c.id, ends[0], ends[1], "V"), func(g *api.Graph) {
				g.Edges = slices.Insert(g.Edges, c.at, api.Edge{Id: c.id, From: ends[0], To: ends[1], Type: "V"})
				g.NextEdge = c.next
			})
		}
		// Nodes that are not there, though edges with these ids may be.
		for _, id := range []int{2, 6, 10, 11, 12, 18, 1000000} {
			refused(t, sample(), addEdge(c.id, id, 1, "T"), api.ErrNode)
			refused(t, sample(), addEdge(c.id, 1, id, "T"), api.ErrNode)
			refused(t, sample(), addEdge(c.id, id, id, "T"), api.ErrNode)
			refused(t, sample(), addEdge(c.id, id, 2, "T"), api.ErrNode)
		}
		refused(t, graph.New(), addEdge(c.id, 1, 1, "T"), api.ErrNode)
	}
	for _, id := range []int{2, 5, 6, 7, 11, 18, 19} {
		refused(t, sample(), addEdge(id, 1, 3, "T"), api.ErrTwice)
		refused(t, sample(), addEdge(id, 2, 3, "T"), api.ErrTwice)
		refused(t, sample(), addEdge(id, 3, 2, "T"), api.ErrTwice)
	}
	for _, next := range []int{1, 2, 3, 7, 1000000, 1000001} {
		for _, id := range []int{1, 2, 1000000} {
			accepted(t, api.Graph{Nodes: []api.Node{{Id: 1}}, NextNode: 2, NextEdge: next}, addEdge(id, 1, 1, "T"), func(g *api.Graph) {
				g.Edges = []api.Edge{{Id: id, From: 1, To: 1, Type: "T"}}
				g.NextEdge = max(next, id+1)
			})
		}
	}
}

// P8.2: as many edges as a graph can have, and one more.
func TestAddEdgeFull(t *testing.T) {
	for _, nodes := range []int{1, 2000} {
		for _, id := range []int{4001, 4002, 1000000} {
			refused(t, graphOf(nodes, 4000), addEdge(id, 1, 1, "T"), api.ErrFull)
			refused(t, graphOf(nodes, 4000), addEdge(id, 2001, 1, "T"), api.ErrNode)
			refused(t, graphOf(nodes, 4000), addEdge(id, 1, 2001, "T"), api.ErrNode)
			accepted(t, graphOf(nodes, 3999), addEdge(id, 1, nodes, "T"), func(g *api.Graph) {
				g.Edges, g.NextEdge = append(g.Edges, api.Edge{Id: id, From: 1, To: nodes, Type: "T"}), id+1
			})
		}
		refused(t, graphOf(nodes, 4000), addEdge(1, 1, 1, "T"), api.ErrTwice)
		refused(t, graphOf(nodes, 4000), addEdge(4000, 2001, 2001, "T"), api.ErrTwice)
		refused(t, graphOf(nodes, 3999), addEdge(3999, 1, 1, "T"), api.ErrTwice)
	}
	g := graphOf(3, 4000)
	for i := range g.Edges {
		g.Edges[i].Id = 2 * (i + 1)
	}
	g.NextEdge = 8001
	refused(t, g, addEdge(1, 1, 2, "T"), api.ErrFull)
	refused(t, g, addEdge(3999, 1, 2, "T"), api.ErrFull)
	refused(t, g, addEdge(2, 1, 2, "T"), api.ErrTwice)
}

// P8.2
func TestDelEdge(t *testing.T) {
	for i, e := range sample().Edges {
		accepted(t, sample(), delEdge(e.Id), func(g *api.Graph) { g.Edges = slices.Delete(g.Edges, i, i+1) })
	}
	for _, id := range []int{1, 3, 4, 8, 9, 10, 12, 20, 29, 30, 1000000} {
		refused(t, sample(), delEdge(id), api.ErrEdge)
		refused(t, graph.New(), delEdge(id), api.ErrEdge)
	}
	g := api.Graph{Nodes: []api.Node{{Id: 1}}, Edges: []api.Edge{{Id: 1000000, From: 1, To: 1, Type: "T"}}, NextNode: 2, NextEdge: 1000001}
	accepted(t, g, delEdge(1000000), func(g *api.Graph) { g.Edges = nil })
	accepted(t, graphOf(2000, 4000), delEdge(4000), func(g *api.Graph) { g.Edges = g.Edges[:3999] })
	accepted(t, graphOf(2000, 4000), delEdge(1), func(g *api.Graph) { g.Edges = g.Edges[1:] })
}

// broken returns graphs that are not valid, with the error of each, among them some in which the changes could be made if they were.
func broken() map[api.Errno][]api.Graph {
	bad := func(edit func(g *api.Graph)) api.Graph { return sampleWith(edit) }
	return map[api.Errno][]api.Graph{
		api.ErrArg: {
			{}, {NextNode: 1}, {NextEdge: 1}, {NextNode: 1000002, NextEdge: 1}, {NextNode: 1, NextEdge: 1000002}, {NextNode: least, NextEdge: greatest},
			bad(func(g *api.Graph) { g.NextNode = 9 }), bad(func(g *api.Graph) { g.NextEdge = 19 }), bad(func(g *api.Graph) { g.NextNode = 0 }), bad(func(g *api.Graph) { g.NextEdge = greatest }), bad(func(g *api.Graph) { g.Nodes[0].Id = 0 }), bad(func(g *api.Graph) { g.Edges[0].Id = 0 }),
		},
		api.ErrLong: {
			graphOf(2001, 0), graphOf(1, 4001), graphOf(2001, 4001), bad(func(g *api.Graph) { g.Nodes[6].Labels = namesFrom(9) }), bad(func(g *api.Graph) { g.Nodes[6].Props = propsFrom(17) }), bad(func(g *api.Graph) { g.Edges[6].Props = propsFrom(17) }),
		},
		api.ErrOrder: {
			bad(func(g *api.Graph) { g.Nodes[1], g.Nodes[2] = g.Nodes[2], g.Nodes[1] }), bad(func(g *api.Graph) { g.Nodes[1].Id = 1 }), bad(func(g *api.Graph) { g.Edges[5], g.Edges[6] = g.Edges[6], g.Edges[5] }), bad(func(g *api.Graph) { g.Nodes[0].Labels = []string{"B", "A"} }), bad(func(g *api.Graph) { g.Nodes[0].Labels = []string{"A", "A"} }), bad(func(g *api.Graph) { slices.Reverse(g.Nodes[3].Props) }), bad(func(g *api.Graph) { slices.Reverse(g.Edges[0].Props) }),
		},
		api.ErrName: {
			bad(func(g *api.Graph) { g.Nodes[6].Labels = []string{"_"} }), bad(func(g *api.Graph) { g.Edges[6].Type = "" }), bad(func(g *api.Graph) { g.Edges[6].Props[0].Key = "9" }), bad(func(g *api.Graph) { g.Nodes[6].Props[0].Key = strings.Repeat("x", 21) }),
		},
		api.ErrType: {
			bad(func(g *api.Graph) { g.Nodes[6].Props[0].V = null }), bad(func(g *api.Graph) { g.Edges[6].Props[0].V = ratio(1, 2) }), bad(func(g *api.Graph) { g.Edges[0].Props[2].V = api.Value{Kind: 9} }),
		},
		api.ErrNode: {
			bad(func(g *api.Graph) { g.Edges[6].To = 10 }), bad(func(g *api.Graph) { g.Edges[0].From = 2 }), {Edges: []api.Edge{{Id: 1, From: 1, To: 1, Type: "T"}}, NextNode: 2, NextEdge: 2},
		},
	}
}

// P8.2: the error of a graph that is not valid comes first, whether the change could be made or not, or is not valid itself.
func TestApplyToBrokenGraphs(t *testing.T) {
	changes := []api.Change{addNode(2), addNode(1), addNode(0), delNode(4), delNode(1), delNode(2), addLabel(4, "A"), addLabel(4, "9"), delLabel(1, "A"), delLabel(4, "A"), setNode(1, "a", integer(2)), setNode(9, "a", integer(2)), setNode(1, "a", ratio(1, 2)), addEdge(1, 1, 3, "T"), addEdge(2, 1, 1, "T"), delEdge(19), delEdge(1), setEdge(2, "a", null), setEdge(1, "a", null), {}, {Op: 9}, {Op: least, Id: greatest}}
	for want, graphs := range broken() {
		for _, g := range graphs {
			for _, c := range changes {
				refused(t, g, c, want)
			}
		}
	}
}

// P8.2: the error of the change comes next, even where an error of the table would apply.
func TestApplyOfBrokenChanges(t *testing.T) {
	for _, g := range []api.Graph{graph.New(), sample()} {
		for _, c := range []struct {
			c    api.Change
			want api.Errno
		}{
			{api.Change{}, api.ErrArg}, {api.Change{Op: 9, Id: 1}, api.ErrArg}, {api.Change{Op: -1, Id: 1}, api.ErrArg}, {api.Change{Op: least, Id: 4}, api.ErrArg}, {api.Change{Op: greatest, Id: 4}, api.ErrArg},
			{addNode(0), api.ErrArg}, {addNode(-1), api.ErrArg}, {addNode(1000001), api.ErrArg}, {addNode(least), api.ErrArg}, {addNode(greatest), api.ErrArg}, {delNode(0), api.ErrArg}, {delNode(1000001), api.ErrArg}, {delEdge(0), api.ErrArg}, {delEdge(1000001), api.ErrArg}, {addEdge(1000001, 1, 1, "T"), api.ErrArg}, {addEdge(1, 0, 1, "T"), api.ErrArg}, {addEdge(2, 1, 1000001, "T"), api.ErrArg}, {setEdge(-7, "w", null), api.ErrArg},
			{api.Change{Op: api.AddNode, Id: 1, Name: "A"}, api.ErrArg}, {api.Change{Op: api.AddNode, Id: 2, V: integer(1)}, api.ErrArg}, {api.Change{Op: api.DelNode, Id: 4, From: 1}, api.ErrArg}, {api.Change{Op: api.DelEdge, Id: 2, To: 1}, api.ErrArg}, {api.Change{Op: api.DelLabel, Id: 1, Name: "A", V: str("")}, api.ErrArg}, {api.Change{Op: api.AddEdge, Id: 1, From: 1, To: 1, Name: "T", V: integer(1)}, api.ErrArg},
			{addLabel(2, "9"), api.ErrName}, {addLabel(1, strings.Repeat("x", 21)), api.ErrName}, {delLabel(1, ""), api.ErrName}, {setNode(2, "_", integer(1)), api.ErrName}, {setEdge(1, "a b", ratio(1, 2)), api.ErrName}, {addEdge(2, 1, 2, ""), api.ErrName}, {addEdge(1, 2, 2, strings.Repeat("x", 21)), api.ErrName},
			{setNode(1, "a", ratio(1, 2)), api.ErrType}, {setNode(2, "a", node(1)), api.ErrType}, {setEdge(1, "a", list()), api.ErrType}, {setEdge(2, "zz", api.Value{N: 1}), api.ErrType}, {setEdge(2, "a", integer(m+1)), api.ErrType},
		} {
			refused(t, g, c.c, c.want)
		}
	}
	// Full graphs, nodes and edges.
	refused(t, graphOf(2000, 4000), addNode(0), api.ErrArg)
	refused(t, graphOf(2000, 4000), addEdge(4001, 1, 1, "_"), api.ErrName)
	full := sampleWith(func(g *api.Graph) {
		g.Nodes[0].Labels, g.Nodes[0].Props, g.Edges[0].Props = namesFrom(8), propsFrom(16), propsFrom(16)
	})
	refused(t, full, addLabel(1, "_"), api.ErrName)
	refused(t, full, setNode(1, "m", list()), api.ErrType)
	refused(t, full, setEdge(2, "m", list()), api.ErrType)
}

// P8.2: what was returned stays as it is when more changes are made in what was passed, or in what was returned.
func TestResultsStay(t *testing.T) {
	changes := []api.Change{addNode(2), addNode(12), addNode(13), delNode(4), delNode(5), addLabel(1, "C"), addLabel(1, "E"), addLabel(4, "A"), delLabel(1, "A"), delLabel(1, "D"), setNode(1, "a", integer(7)), setNode(1, "a", null), setNode(1, "c", integer(7)), setNode(4, "c", integer(7)), addEdge(1, 1, 3, "V"), addEdge(30, 4, 5, "V"), addEdge(31, 5, 4, "V"), delEdge(2), delEdge(7), setEdge(2, "a", integer(7)), setEdge(2, "a", null), setEdge(2, "c", integer(7)), setEdge(5, "c", integer(7))}
	g := rebuilt(sample(), roomy)
	for _, first := range changes {
		h, err := change.Apply(g, first)
		if err != api.OK {
			t.Fatalf("Apply(%+v) = %d", first, err)
		}
		before := copied(h)
		for _, second := range changes {
			change.Apply(g, second)
			change.Apply(h, second)
			change.ApplyAll(g, changes)
			change.Invert(h, []api.Change{second})
		}
		if !graph.Same(h, before) || !graph.Same(g, sample()) {
			t.Errorf("after %+v: %s and %s became %s and %s", first, brief(sample()), brief(before), brief(g), brief(h))
		}
	}
}
