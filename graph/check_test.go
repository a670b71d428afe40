package graph_test

import (
	"fmt"
	"graphdb/api"
	"graphdb/graph"
	"graphdb/value"
	"math/rand"
	"slices"
	"strings"
	"testing"
)

// graphOf returns a graph with that many nodes and edges, which is valid if they are not too many and there is a node.
func graphOf(nodes, edges int) api.Graph {
	g := api.Graph{NextNode: nodes + 1, NextEdge: edges + 1}
	for i := range nodes {
		g.Nodes = append(g.Nodes, api.Node{Id: i + 1})
	}
	for i := range edges {
		g.Edges = append(g.Edges, api.Edge{Id: i + 1, From: i%nodes + 1, To: i*i%nodes + 1, Type: "T"})
	}
	return g
}

// namesFrom returns n names in increasing order.
func namesFrom(n int) []string {
	var l []string
	for i := range n {
		l = append(l, fmt.Sprintf("n%02d", i))
	}
	return l
}

// propsFrom returns n properties with names in increasing order.
func propsFrom(n int) []api.Prop {
	var l []api.Prop
	for i, s := range namesFrom(n) {
		l = append(l, prop(s, integer(i)))
	}
	return l
}

// sampleWith returns the sample as change leaves it.
func sampleWith(change func(g *api.Graph)) api.Graph {
	g := sample()
	change(&g)
	return g
}

// checkIs fails if Check of g is not want.
func checkIs(t *testing.T, g api.Graph, want api.Errno, what string, args ...any) {
	t.Helper()
	if got := graph.Check(g); got != want {
		t.Errorf("Check of %s = %d, want %d", fmt.Sprintf(what, args...), got, want)
	}
}

// P7.2: the graphs of the chapter's examples, and those without nodes.
func TestCheckExamples(t *testing.T) {
	g := api.Graph{NextNode: 3, NextEdge: 3, Nodes: []api.Node{{Id: 1}, {Id: 2}}, Edges: []api.Edge{{Id: 1, From: 1, To: 2, Type: "T"}, {Id: 2, From: 2, To: 2, Type: "T"}}}
	checkIs(t, g, api.OK, "example 1")
	g.Edges[0].To = 3
	checkIs(t, g, api.ErrNode, "an edge to a node that does not exist")
	checkIs(t, api.Graph{NextNode: 2, NextEdge: 1, Nodes: []api.Node{{Id: 1, Labels: []string{"B", "A"}}}}, api.ErrOrder, "labels B, A")
	checkIs(t, api.Graph{NextNode: 2, NextEdge: 1, Nodes: []api.Node{{Id: 1, Props: []api.Prop{prop("k", null)}}}}, api.ErrType, "a property that is null")
	checkIs(t, sample(), api.OK, "the sample")
	checkIs(t, api.Graph{}, api.ErrArg, "the zero graph")
	checkIs(t, api.Graph{NextNode: 1, NextEdge: 1}, api.OK, "the empty graph")
	checkIs(t, api.Graph{Nodes: []api.Node{}, Edges: []api.Edge{}, NextNode: 1, NextEdge: 1}, api.OK, "the empty graph without nil")
	checkIs(t, api.Graph{NextNode: 900, NextEdge: 1000001}, api.OK, "an empty graph whose ids were used")
	checkIs(t, api.Graph{NextNode: 9, NextEdge: 9, Edges: []api.Edge{{Id: 1, From: 1, To: 1, Type: "T"}}}, api.ErrNode, "an edge without nodes")
}

// P7.2: exactly as many nodes and edges as the limits allow, and more.
func TestCheckSizes(t *testing.T) {
	for _, c := range []struct {
		nodes, edges int
		want         api.Errno
	}{
		{1, 0, api.OK}, {1, 1, api.OK}, {1, 4000, api.OK}, {2000, 0, api.OK}, {1999, 3999, api.OK}, {2000, 4000, api.OK},
		{2001, 0, api.ErrLong}, {2001, 4000, api.ErrLong}, {2000, 4001, api.ErrLong}, {1, 4001, api.ErrLong}, {2001, 4001, api.ErrLong}, {4000, 2000, api.ErrLong}, {70000, 1, api.ErrLong}, {1, 70000, api.ErrLong},
	} {
		checkIs(t, graphOf(c.nodes, c.edges), c.want, "%d nodes and %d edges", c.nodes, c.edges)
	}
	checkIs(t, api.Graph{NextNode: 1, NextEdge: 1, Edges: make([]api.Edge, 4000)}, api.ErrArg, "4000 empty edges")
	checkIs(t, api.Graph{Nodes: make([]api.Node, 2001)}, api.ErrLong, "2001 empty nodes")
	checkIs(t, api.Graph{Edges: make([]api.Edge, 4001)}, api.ErrLong, "4001 empty edges")
}

// P7.2: the next ids at both ends of their range, with the ids that then exist.
func TestCheckNextIds(t *testing.T) {
	for _, next := range []int{least, least + 1, -1000001, -1, 0, 1, 2, 10, 20, 999999, 1000000, 1000001, 1000002, 1000003, greatest - 1, greatest} {
		want := api.OK
		if next < 1 || next > 1000001 {
			want = api.ErrArg
		}
		checkIs(t, api.Graph{NextNode: next, NextEdge: 1}, want, "NextNode %d", next)
		checkIs(t, api.Graph{NextNode: 1, NextEdge: next}, want, "NextEdge %d", next)
		checkIs(t, api.Graph{NextNode: next, NextEdge: next}, want, "NextNode and NextEdge %d", next)
		checkIs(t, api.Graph{NextNode: next, NextEdge: 0}, api.ErrArg, "NextNode %d and NextEdge 0", next)
		checkIs(t, api.Graph{NextNode: 1000002, NextEdge: next}, api.ErrArg, "NextNode 1000002 and NextEdge %d", next)
		for _, id := range []int{least, next - 2, next - 1, next, next + 1, -1, 0, 1, 2, 1000000, 1000001, greatest} {
			want := want
			if want == api.OK && (id < 1 || id > next-1) {
				want = api.ErrArg
			}
			checkIs(t, api.Graph{NextNode: next, NextEdge: 1, Nodes: []api.Node{{Id: id}}}, want, "NextNode %d and node %d", next, id)
			// One more node, so that the edge's own id decides, not that of its ends.
			g := api.Graph{NextNode: 6, NextEdge: next, Nodes: []api.Node{{Id: 5}}, Edges: []api.Edge{{Id: id, From: 5, To: 5, Type: "T"}}}
			checkIs(t, g, want, "NextEdge %d and edge %d", next, id)
		}
	}
}

// P7.2: equal, decreasing and wrong ids: what is not greater than the id before is in a wrong order, even if it is wrong by itself.
func TestCheckIds(t *testing.T) {
	for _, c := range []struct {
		ids  []int
		want api.Errno
	}{
		{[]int{1, 2, 3}, api.OK}, {[]int{1, 5, 9}, api.OK}, {[]int{7, 8, 9}, api.OK}, {[]int{9}, api.OK},
		{[]int{1, 1}, api.ErrOrder}, {[]int{2, 1}, api.ErrOrder}, {[]int{9, 8}, api.ErrOrder}, {[]int{1, 2, 2}, api.ErrOrder}, {[]int{1, 3, 2}, api.ErrOrder}, {[]int{2, 3, 1}, api.ErrOrder}, {[]int{5, 5, 6}, api.ErrOrder}, {[]int{3, 4, 3, 5}, api.ErrOrder},
		{[]int{0}, api.ErrArg}, {[]int{-1}, api.ErrArg}, {[]int{least}, api.ErrArg}, {[]int{10}, api.ErrArg}, {[]int{11}, api.ErrArg}, {[]int{greatest}, api.ErrArg},
		{[]int{0, 1}, api.ErrArg}, {[]int{-1, 0}, api.ErrArg}, {[]int{0, 0}, api.ErrArg}, {[]int{least, least}, api.ErrArg}, {[]int{10, 10}, api.ErrArg}, {[]int{11, 10}, api.ErrArg},
		{[]int{1, 10}, api.ErrArg}, {[]int{1, 9, 10}, api.ErrArg}, {[]int{1, greatest}, api.ErrArg}, {[]int{1, 10, 10}, api.ErrArg}, {[]int{1, 10, 9}, api.ErrArg},
		{[]int{1, 0}, api.ErrOrder}, {[]int{1, -1}, api.ErrOrder}, {[]int{1, least}, api.ErrOrder}, {[]int{9, least, greatest}, api.ErrOrder}, {[]int{1, 1, 10}, api.ErrOrder},
	} {
		nodes := api.Graph{NextNode: 10, NextEdge: 1}
		edges := api.Graph{NextNode: 5, NextEdge: 10, Nodes: []api.Node{{Id: 4}}}
		for _, id := range c.ids {
			nodes.Nodes = append(nodes.Nodes, api.Node{Id: id})
			edges.Edges = append(edges.Edges, api.Edge{Id: id, From: 4, To: 4, Type: "T"})
		}
		checkIs(t, nodes, c.want, "the nodes %v", c.ids)
		checkIs(t, edges, c.want, "the edges %v", c.ids)
	}
}

// P7.2: the next ids of nodes and of edges are not mixed up.
func TestCheckIdsApart(t *testing.T) {
	g := api.Graph{NextNode: 3, NextEdge: 8, Nodes: []api.Node{{Id: 1}, {Id: 2}}, Edges: []api.Edge{{Id: 7, From: 1, To: 2, Type: "T"}}}
	checkIs(t, g, api.OK, "edge 7 where the next node is 3")
	g.Nodes[1].Id = 3
	checkIs(t, g, api.ErrArg, "node 3 where the next node is 3 and the next edge 8")
	g.Nodes[1].Id = 2
	g.NextEdge = 7
	checkIs(t, g, api.ErrArg, "edge 7 where the next edge is 7")
}

// P7.2: labels of nodes, as many as the limit allows, too many, no names, and not increasing.
func TestCheckLabels(t *testing.T) {
	reversed := namesFrom(9)
	slices.Reverse(reversed)
	for _, c := range []struct {
		labels []string
		want   api.Errno
	}{
		{nil, api.OK}, {[]string{}, api.OK}, {[]string{"A"}, api.OK}, {[]string{"A", "B"}, api.OK}, {[]string{"A", "AA", "B"}, api.OK}, {[]string{"A", "A0", "AA", "A_", "Aa"}, api.OK}, {[]string{"Z", "a"}, api.OK}, {[]string{strings.Repeat("x", 20)}, api.OK},
		{namesFrom(7), api.OK}, {namesFrom(8), api.OK}, {namesFrom(9), api.ErrLong}, {namesFrom(16), api.ErrLong}, {namesFrom(17), api.ErrLong}, {namesFrom(400), api.ErrLong},
		{[]string{""}, api.ErrName}, {[]string{"_"}, api.ErrName}, {[]string{"9"}, api.ErrName}, {[]string{"é"}, api.ErrName}, {[]string{"a b"}, api.ErrName}, {[]string{strings.Repeat("x", 21)}, api.ErrName}, {[]string{"A", "B", "_"}, api.ErrName}, {[]string{"A", "", "B"}, api.ErrName}, {[]string{"", "A"}, api.ErrName},
		{[]string{"A", "A"}, api.ErrOrder}, {[]string{"B", "A"}, api.ErrOrder}, {[]string{"a", "Z"}, api.ErrOrder}, {[]string{"AA", "A"}, api.ErrOrder}, {[]string{"A", "B", "B"}, api.ErrOrder}, {[]string{"A", "C", "B"}, api.ErrOrder}, {[]string{"B", "C", "A"}, api.ErrOrder}, {[]string{"A", "A", "B"}, api.ErrOrder}, {append(namesFrom(7), "n06"), api.ErrOrder}, {append(namesFrom(7), "n05"), api.ErrOrder},
		// More than one error.
		{reversed, api.ErrLong}, {reversed[1:], api.ErrOrder}, {append(namesFrom(8), ""), api.ErrLong}, {append(namesFrom(7), ""), api.ErrName}, {[]string{"B", "A", "_"}, api.ErrName}, {[]string{"_", "_"}, api.ErrName}, {[]string{"A", "A", "é"}, api.ErrName}, {make([]string, 9), api.ErrLong}, {make([]string, 8), api.ErrName},
	} {
		for at := range sample().Nodes {
			g := sampleWith(func(g *api.Graph) { g.Nodes[at].Labels = c.labels })
			checkIs(t, g, c.want, "the labels %q of node %d", c.labels, at)
		}
	}
}

// P7.2: properties of nodes and edges, likewise.
func TestCheckKeys(t *testing.T) {
	keyed := func(keys ...string) []api.Prop {
		var l []api.Prop
		for _, k := range keys {
			l = append(l, prop(k, integer(1)))
		}
		return l
	}
	reversed := propsFrom(17)
	slices.Reverse(reversed)
	for _, c := range []struct {
		props []api.Prop
		want  api.Errno
	}{
		{nil, api.OK}, {[]api.Prop{}, api.OK}, {keyed("A", "B"), api.OK}, {keyed("a", "aa", "b"), api.OK}, {keyed(strings.Repeat("x", 20)), api.OK}, {keyed("A0", "A_", "Aa"), api.OK},
		{propsFrom(8), api.OK}, {propsFrom(9), api.OK}, {propsFrom(15), api.OK}, {propsFrom(16), api.OK}, {propsFrom(17), api.ErrLong}, {propsFrom(400), api.ErrLong},
		{keyed(""), api.ErrName}, {keyed("_"), api.ErrName}, {keyed("0"), api.ErrName}, {keyed("a", "b", "é"), api.ErrName}, {keyed("a", "b-", "c"), api.ErrName}, {keyed(strings.Repeat("x", 21)), api.ErrName},
		{keyed("a", "a"), api.ErrOrder}, {keyed("b", "a"), api.ErrOrder}, {keyed("a", "B"), api.ErrOrder}, {keyed("aa", "a"), api.ErrOrder}, {keyed("a", "c", "b"), api.ErrOrder}, {keyed("b", "c", "a"), api.ErrOrder}, {keyed("a", "b", "b"), api.ErrOrder}, {append(propsFrom(15), keyed("n14")...), api.ErrOrder},
		{reversed, api.ErrLong}, {reversed[1:], api.ErrOrder}, {append(propsFrom(16), keyed("")...), api.ErrLong}, {append(propsFrom(15), keyed("")...), api.ErrName}, {keyed("b", "a", "_"), api.ErrName}, {make([]api.Prop, 17), api.ErrLong}, {make([]api.Prop, 16), api.ErrName},
		{[]api.Prop{prop("b", null), prop("a", null)}, api.ErrOrder}, {[]api.Prop{prop("a", null), prop("a", integer(1))}, api.ErrOrder}, {[]api.Prop{prop("a", null), prop("_", null)}, api.ErrName}, {[]api.Prop{prop("a", null), prop("b", integer(1))}, api.ErrType},
	} {
		for at := range sample().Nodes {
			g := sampleWith(func(g *api.Graph) { g.Nodes[at].Props = c.props })
			checkIs(t, g, c.want, "the properties %v of node %d", c.props, at)
		}
		for at := range sample().Edges {
			g := sampleWith(func(g *api.Graph) { g.Edges[at].Props = c.props })
			checkIs(t, g, c.want, "the properties %v of edge %d", c.props, at)
		}
	}
}

// P7.2: values of each kind, those that can be stored and those that can't.
func TestCheckValues(t *testing.T) {
	for _, v := range []api.Value{
		boolean(0), boolean(1), integer(0), integer(-1), integer(m), integer(-m), str(""), str("a"), str(" ~"), str(strings.Repeat("'", 100)), {Kind: api.VInt, L: []api.Value{}},
	} {
		checkValue(t, v, api.OK)
	}
	for _, v := range []api.Value{
		null, ratio(1, 2), node(1), edge(2), path(node(1)), path(node(1), edge(2), node(3)), list(), list(integer(1)), list(str("a"), null),
		// Not valid at all.
		boolean(2), boolean(-1), integer(m + 1), integer(-m - 1), integer(least), integer(greatest), str(strings.Repeat("a", 101)), str("\x1f"), str("\x7f"), str("é"), str("a\n"), ratio(2, 4), ratio(1, 1), ratio(1, 0), node(0), edge(0), path(), list(list(null), integer(m+1)),
		{Kind: api.VBool, D: 1}, {Kind: api.VBool, S: "a"}, {Kind: api.VInt, N: 1, D: 1}, {Kind: api.VInt, S: "1"}, {Kind: api.VInt, L: []api.Value{null}}, {Kind: api.VStr, N: 1, S: "a"}, {Kind: api.VStr, S: "a", L: []api.Value{null}}, {Kind: -1}, {Kind: 9}, {Kind: least}, {Kind: greatest, N: 1}, {N: 1},
	} {
		checkValue(t, v, api.ErrType)
	}
}

// checkValue checks the sample with v as each of its properties in turn.
func checkValue(t *testing.T, v api.Value, want api.Errno) {
	t.Helper()
	for i, n := range sample().Nodes {
		for j := range n.Props {
			g := sampleWith(func(g *api.Graph) { g.Nodes[i].Props[j].V = v })
			checkIs(t, g, want, "%v as property %d of node %d", v, j, i)
		}
	}
	for i, e := range sample().Edges {
		for j := range e.Props {
			g := sampleWith(func(g *api.Graph) { g.Edges[i].Props[j].V = v })
			checkIs(t, g, want, "%v as property %d of edge %d", v, j, i)
		}
	}
}

// P7.2: the ends of edges are nodes.
func TestCheckEnds(t *testing.T) {
	for _, id := range []int{least, -1, 0, 1, 2, 3, 4, 5, 8, 9, 10, 11, 1000001, greatest} {
		want := api.ErrNode
		if slices.Contains([]int{1, 3, 4, 9}, id) {
			want = api.OK
		}
		for at := range sample().Edges {
			checkIs(t, sampleWith(func(g *api.Graph) { g.Edges[at].From = id }), want, "edge %d from %d", at, id)
			checkIs(t, sampleWith(func(g *api.Graph) { g.Edges[at].To = id }), want, "edge %d to %d", at, id)
			checkIs(t, sampleWith(func(g *api.Graph) { g.Edges[at].From, g.Edges[at].To = id, id }), want, "a loop %d at %d", at, id)
			checkIs(t, sampleWith(func(g *api.Graph) { g.Edges[at].From, g.Edges[at].To = id, 0 }), api.ErrNode, "edge %d from %d to 0", at, id)
		}
	}
}

// P7.2: the types of edges are names.
func TestCheckTypes(t *testing.T) {
	for _, s := range []string{"T", "t9_", strings.Repeat("T", 20), "", "_", "_T", "9", "9T", "T U", "é", "T\xff", strings.Repeat("T", 21)} {
		want := api.OK
		if !names.MatchString(s) {
			want = api.ErrName
		}
		for at := range sample().Edges {
			checkIs(t, sampleWith(func(g *api.Graph) { g.Edges[at].Type = s }), want, "edge %d of type %q", at, s)
		}
	}
}

// fault is an error that can be put into the sample, beside all others of the list that faults returns.
type fault struct {
	what  string
	field string
	want  api.Errno
	spoil func(g *api.Graph)
}

// faults returns faults in the order in which Check looks for them. Only those of the same field exclude each other.
func faults() []fault {
	all := []fault{
		{"2001 nodes", "nodes", api.ErrLong, func(g *api.Graph) { g.Nodes = append(g.Nodes, make([]api.Node, 1997)...) }},
		{"4001 edges", "edges", api.ErrLong, func(g *api.Graph) { g.Edges = append(g.Edges, make([]api.Edge, 3994)...) }},
		{"NextNode 0", "NextNode", api.ErrArg, func(g *api.Graph) { g.NextNode = 0 }},
		{"NextNode 1000002", "NextNode", api.ErrArg, func(g *api.Graph) { g.NextNode = 1000002 }},
		{"NextEdge 0", "NextEdge", api.ErrArg, func(g *api.Graph) { g.NextEdge = 0 }},
		{"NextEdge 1000002", "NextEdge", api.ErrArg, func(g *api.Graph) { g.NextEdge = 1000002 }},
	}
	for i := range sample().Nodes {
		all = append(all, nodeFaults(i)...)
	}
	for i := range sample().Edges {
		all = append(all, edgeFaults(i)...)
	}
	return all
}

// nodeFaults returns the faults of the node at index i.
func nodeFaults(i int) []fault {
	var all []fault
	id := fmt.Sprintf("Id of node %d", i)
	if i > 0 {
		all = append(all, fault{"equal ids", id, api.ErrOrder, func(g *api.Graph) { g.Nodes[i].Id = g.Nodes[i-1].Id }})
	}
	all = append(all, fault{"an id that was not assigned", id, api.ErrArg, func(g *api.Graph) { g.Nodes[i].Id = 500000 }})
	return append(all, contentFaults(fmt.Sprintf("node %d", i),
		func(g *api.Graph) *[]string { return &g.Nodes[i].Labels },
		func(g *api.Graph) *[]api.Prop { return &g.Nodes[i].Props })...)
}

// edgeFaults returns the faults of the edge at index i.
func edgeFaults(i int) []fault {
	var all []fault
	id := fmt.Sprintf("Id of edge %d", i)
	if i > 0 {
		all = append(all, fault{"equal ids", id, api.ErrOrder, func(g *api.Graph) { g.Edges[i].Id = g.Edges[i-1].Id }})
	}
	all = append(all,
		fault{"an id that was not assigned", id, api.ErrArg, func(g *api.Graph) { g.Edges[i].Id = 500000 }},
		fault{"an end that is no node", fmt.Sprintf("From of edge %d", i), api.ErrNode, func(g *api.Graph) { g.Edges[i].From = 2 }},
		fault{"an end that is no node", fmt.Sprintf("To of edge %d", i), api.ErrNode, func(g *api.Graph) { g.Edges[i].To = 0 }},
		fault{"a type that is no name", fmt.Sprintf("Type of edge %d", i), api.ErrName, func(g *api.Graph) { g.Edges[i].Type = "1" }})
	return append(all, contentFaults(fmt.Sprintf("edge %d", i), nil,
		func(g *api.Graph) *[]api.Prop { return &g.Edges[i].Props })...)
}

// contentFaults returns the faults of the labels, if there can be any, and of the properties of a node or edge.
func contentFaults(where string, labels func(g *api.Graph) *[]string, props func(g *api.Graph) *[]api.Prop) []fault {
	// Each fault adds to what the others added, so that any of them can be put in together and in any order.
	label := func(l ...string) func(g *api.Graph) {
		return func(g *api.Graph) { *labels(g) = append(*labels(g), l...) }
	}
	property := func(l ...api.Prop) func(g *api.Graph) {
		return func(g *api.Graph) { *props(g) = append(*props(g), l...) }
	}
	all := []fault{
		{"too many labels", "more labels of " + where, api.ErrLong, label("xa", "xb", "xc", "xd", "xe", "xf", "xg", "xh", "xi")},
		{"too many properties", "more properties of " + where, api.ErrLong, property(slices.Concat(propsFrom(9), propsFrom(8))...)},
		{"a label that is no name", "no name of " + where, api.ErrName, label("z-")},
		{"a key that is no name", "no key of " + where, api.ErrName, property(prop("z-", boolean(1)))},
		{"equal labels", "labels of " + where, api.ErrOrder, label("zz", "zz")},
		{"decreasing keys", "keys of " + where, api.ErrOrder, property(prop("zz", boolean(1)), prop("zy", boolean(0)))},
		{"a value that is null", "value of " + where, api.ErrType, property(prop("zzz", null))},
	}
	if labels == nil {
		all = slices.DeleteFunc(all, func(f fault) bool { return strings.Contains(f.what, "label") })
	}
	return all
}

// P7.2: each fault alone, and of any two of them the one that the list of the chapter names first.
func TestFirstErrorWins(t *testing.T) {
	all := faults()
	for i, a := range all {
		checkIs(t, sampleWith(a.spoil), a.want, "%s: %s", a.field, a.what)
		for _, b := range all[i+1:] {
			if a.field == b.field {
				continue
			}
			both := sampleWith(func(g *api.Graph) { a.spoil(g); b.spoil(g) })
			checkIs(t, both, a.want, "%s: %s; %s: %s", a.field, a.what, b.field, b.what)
			both = sampleWith(func(g *api.Graph) { b.spoil(g); a.spoil(g) })
			checkIs(t, both, a.want, "%s: %s; %s: %s", b.field, b.what, a.field, a.what)
		}
	}
}

// place says where in the list of P7.2 an error stands: the part of the graph, the index of the node or edge, and the number of the condition.
type place [3]int

// allErrors returns the errors of g by their places, each looked for on its own.
func allErrors(g api.Graph) map[place]api.Errno {
	found := map[place]api.Errno{}
	add := func(wrong bool, err api.Errno, at ...int) {
		if wrong {
			found[place(at)] = err
		}
	}
	add(len(g.Nodes) > 2000 || len(g.Edges) > 4000, api.ErrLong, 0, 0, 0)
	add(g.NextNode < 1 || g.NextNode > 1000001, api.ErrArg, 0, 0, 1)
	add(g.NextEdge < 1 || g.NextEdge > 1000001, api.ErrArg, 0, 0, 1)
	content := func(part, i int, labels []string, props []api.Prop) {
		add(len(labels) > 8 || len(props) > 16, api.ErrLong, part, i, 4)
		var keys []string
		for _, p := range props {
			keys = append(keys, p.Key)
			add(!value.Plain(p.V), api.ErrType, part, i, 7)
		}
		for _, s := range slices.Concat(labels, keys) {
			add(!names.MatchString(s), api.ErrName, part, i, 5)
		}
		for _, l := range [][]string{labels, keys} {
			sorted := slices.Compact(slices.Sorted(slices.Values(l)))
			add(!slices.Equal(l, sorted), api.ErrOrder, part, i, 6)
		}
	}
	exists := map[int]bool{}
	for i, n := range g.Nodes {
		exists[n.Id] = true
		add(i > 0 && n.Id <= g.Nodes[max(i-1, 0)].Id, api.ErrOrder, 1, i, 0)
		add(n.Id < 1 || n.Id > g.NextNode-1, api.ErrArg, 1, i, 1)
		content(1, i, n.Labels, n.Props)
	}
	for i, e := range g.Edges {
		add(i > 0 && e.Id <= g.Edges[max(i-1, 0)].Id, api.ErrOrder, 2, i, 0)
		add(e.Id < 1 || e.Id > g.NextEdge-1, api.ErrArg, 2, i, 1)
		add(!exists[e.From] || !exists[e.To], api.ErrNode, 2, i, 2)
		add(!names.MatchString(e.Type), api.ErrName, 2, i, 3)
		content(2, i, nil, e.Props)
	}
	return found
}

// firstError returns what Check is defined to return.
func firstError(g api.Graph) api.Errno {
	found := allErrors(g)
	var at []place
	for p := range found {
		at = append(at, p)
	}
	if len(at) == 0 {
		return api.OK
	}
	return found[slices.MinFunc(at, func(a, b place) int { return slices.Compare(a[:], b[:]) })]
}

// P7.2: graphs with any number of the faults, and graphs where all is random.
func TestCheckOfAnyGraph(t *testing.T) {
	source := rand.New(rand.NewSource(72))
	graphs, all := anyGraphs(), faults()[2:]
	for range 3000 {
		g := sample()
		for range source.Intn(7) {
			all[source.Intn(len(all))].spoil(&g)
		}
		if source.Intn(3) == 0 {
			slices.Reverse(g.Nodes[source.Intn(len(g.Nodes)):])
		}
		if source.Intn(3) == 0 {
			slices.Reverse(g.Edges[source.Intn(len(g.Edges)):])
		}
		graphs = append(graphs, g)
	}
	for _, g := range graphs {
		if got, want := graph.Check(g), firstError(g); got != want {
			t.Fatalf("Check(%v) = %d, want %d", g, got, want)
		}
	}
}

// P7.2: all graphs of up to two nodes and one edge with small ids.
func TestCheckOfSmallGraphs(t *testing.T) {
	ids := []int{-1, 0, 1, 2, 3}
	nodes := [][]api.Node{nil}
	for _, a := range ids {
		nodes = append(nodes, []api.Node{{Id: a}})
		for _, b := range ids {
			nodes = append(nodes, []api.Node{{Id: a}, {Id: b}})
		}
	}
	edges := [][]api.Edge{nil}
	for _, id := range ids {
		for _, from := range ids {
			for _, to := range ids {
				edges = append(edges, []api.Edge{{Id: id, From: from, To: to, Type: "T"}}, []api.Edge{{Id: 1, From: 1, To: 2, Type: "T"}, {Id: id, From: from, To: to, Type: "T"}})
			}
		}
	}
	for _, n := range nodes {
		for _, e := range edges {
			for _, next := range []int{0, 1, 2, 3, 4} {
				for _, g := range []api.Graph{{Nodes: n, Edges: e, NextNode: 3, NextEdge: next}, {Nodes: n, Edges: e, NextNode: next, NextEdge: 3}} {
					if got, want := graph.Check(g), firstError(g); got != want {
						t.Fatalf("Check(%v) = %d, want %d", g, got, want)
					}
				}
			}
		}
	}
}
