package delta_test

import (
	"fmt"
	"graphdb/api"
	"graphdb/change"
	"graphdb/delta"
	"graphdb/graph"
	"math"
	"slices"
	"strings"
	"testing"
)

// pair returns the nodes 1 and 2, without labels and properties.
func pair() []api.Node {
	return nodes(node(1, ""), node(2, ""))
}

// P11.1: the examples of the chapter.
func TestOfExamples(t *testing.T) {
	ofIs(t, graphOf(nodes(node(1, "A", prop("k", 1)))), graphOf(nodes(node(1, "B", prop("k", 2)))), "-label 1 A, +label 1 B, set 1 k 2")
	ofIs(t, graphOf(pair(), edge(1, 1, 2, "T", prop("w", 1))), graphOf(pair(), edge(1, 2, 1, "T", prop("w", 1))), "-edge 1, +edge 1 2 1 T, eset 1 w 1")
	normIs(t, graph.New(), changes("+node 5, -node 5"), "", api.OK)
	normIs(t, sample(), changes("+node 5, -node 5"), "", api.OK)
}

// P11.1, P11.2: there is nothing to do between graphs that differ at most in their next ids.
func TestOfAlikeGraphs(t *testing.T) {
	for _, g := range []api.Graph{graph.New(), sample(), graphOf(pair()), graphOf(pair(), edge(1, 1, 1, "T", prop("k", "v")))} {
		for _, next := range []int{g.NextNode, g.NextNode + 1, 1000000, 1000001} {
			h := copied(g)
			h.NextNode = next
			ofIs(t, g, h, "")
			ofIs(t, h, g, "")
			h.NextNode, h.NextEdge = g.NextNode, max(g.NextEdge, next)
			ofIs(t, g, h, "")
			ofIs(t, h, g, "")
		}
	}
	// A list that is empty but not nil makes no other value.
	ofIs(t, graphOf(nodes(node(1, "", prop("k", 1))), edge(1, 1, 1, "T", prop("k", true))), graphOf(nodes(node(1, "", prop("k", hollow(1)))), edge(1, 1, 1, "T", prop("k", hollow(true)))), "")
}

// P11.1: to a graph from the empty one, and back.
func TestOfEmptyGraphs(t *testing.T) {
	ofIs(t, graph.New(), sample(), "+node 1, +node 2, +node 10, +node 11, +node 20, "+
		"+label 1 A, +label 1 B, set 1 a 1, set 1 b true, set 1 c 'x', +label 2 B, +label 11 A, set 11 a 1, +label 20 C, set 20 z '', "+
		"+edge 3 1 10 T, +edge 4 1 10 T, +edge 12 10 1 U, +edge 30 11 11 T, eset 3 a 1, eset 3 w 'x', eset 12 w false")
	ofIs(t, sample(), graph.New(), "-edge 3, -edge 4, -edge 12, -edge 30, -node 1, -node 2, -node 10, -node 11, -node 20")
	ofIs(t, graph.New(), graphOf(nodes(node(1000000, ""))), "+node 1000000")
	ofIs(t, graphOf(nodes(node(1000000, ""))), graph.New(), "-node 1000000")
	ofIs(t, graph.New(), graphOf(nodes(node(1, "")), edge(1000000, 1, 1, "T")), "+node 1, +edge 1000000 1 1 T")
	ofIs(t, graphOf(nodes(node(1, "")), edge(1000000, 1, 1, "T")), graph.New(), "-edge 1000000, -node 1")
}

// P11.1: nodes that are gone, new, and both.
func TestOfNodes(t *testing.T) {
	a := graphOf(nodes(node(2, "A", prop("k", 1)), node(4, ""), node(10, "B")))
	for _, c := range []struct {
		b    []api.Node
		want string
	}{
		{nodes(a.Nodes[1], a.Nodes[2]), "-node 2"},
		{nodes(a.Nodes[0], a.Nodes[2]), "-node 4"},
		{nodes(a.Nodes[0], a.Nodes[1]), "-node 10"},
		{nodes(a.Nodes[1]), "-node 2, -node 10"},
		{nodes(node(1, ""), a.Nodes[0], a.Nodes[1], a.Nodes[2]), "+node 1"},
		{nodes(a.Nodes[0], node(3, ""), a.Nodes[1], node(9, ""), a.Nodes[2], node(11, "")), "+node 3, +node 9, +node 11"},
		{nodes(a.Nodes[0], a.Nodes[1], a.Nodes[2], node(100, "A", prop("k", 1))), "+node 100, +label 100 A, set 100 k 1"},
		{nodes(node(1, "A", prop("k", 1)), a.Nodes[1], a.Nodes[2]), "-node 2, +node 1, +label 1 A, set 1 k 1"},
		{nodes(node(1, ""), node(3, ""), node(5, ""), node(12, "")), "-node 2, -node 4, -node 10, +node 1, +node 3, +node 5, +node 12"},
		{nodes(node(3, "B"), a.Nodes[1], node(20, "", prop("k", 2))), "-node 2, -node 10, +node 3, +node 20, +label 3 B, set 20 k 2"},
	} {
		ofIs(t, a, graphOf(c.b), c.want)
	}
}

// P11.1: edges that are gone, new, and both, at nodes that stay.
func TestOfEdges(t *testing.T) {
	l := []api.Edge{edge(2, 1, 2, "T", prop("k", 1)), edge(4, 2, 1, "U"), edge(10, 1, 1, "T")}
	a := graphOf(pair(), l...)
	for _, c := range []struct {
		b    []api.Edge
		want string
	}{
		{nil, "-edge 2, -edge 4, -edge 10"},
		{[]api.Edge{l[1], l[2]}, "-edge 2"},
		{[]api.Edge{l[0], l[2]}, "-edge 4"},
		{[]api.Edge{l[0], l[1]}, "-edge 10"},
		{[]api.Edge{l[0], l[1], l[2], edge(11, 1, 2, "T", prop("k", 1))}, "+edge 11 1 2 T, eset 11 k 1"},
		{[]api.Edge{edge(1, 2, 2, "V"), l[0], edge(3, 1, 2, "T"), l[1], l[2]}, "+edge 1 2 2 V, +edge 3 1 2 T"},
		{[]api.Edge{edge(1, 1, 2, "T", prop("k", 1)), l[1], l[2]}, "-edge 2, +edge 1 1 2 T, eset 1 k 1"},
		{[]api.Edge{edge(3, 1, 2, "T", prop("z", true)), edge(9, 2, 1, "U", prop("a", 1), prop("b", 2)), edge(100, 1, 1, "T")}, "-edge 2, -edge 4, -edge 10, +edge 3 1 2 T, +edge 9 2 1 U, +edge 100 1 1 T, eset 3 z true, eset 9 a 1, eset 9 b 2"},
	} {
		ofIs(t, a, graphOf(pair(), c.b...), c.want)
	}
}

// P11.1: an edge with another From, To or Type, or more than one of them, is removed and added with all its properties, whichever it had before.
func TestOfReplacedEdges(t *testing.T) {
	three := nodes(node(1, ""), node(2, ""), node(3, ""))
	for _, before := range [][]api.Prop{nil, {prop("a", 1), prop("b", 2)}, {prop("a", 2), prop("c", 3)}, {prop("z", "old")}} {
		a := graphOf(three, edge(5, 1, 2, "T"), edge(7, 1, 2, "T", before...), edge(9, 1, 2, "T"))
		for _, e := range []api.Edge{edge(7, 3, 2, "T"), edge(7, 1, 3, "T"), edge(7, 1, 2, "U"), edge(7, 2, 1, "T"), edge(7, 1, 1, "T"), edge(7, 2, 2, "T"), edge(7, 3, 3, "T"), edge(7, 1, 2, "t"), edge(7, 2, 3, "TT")} {
			added := fmt.Sprintf("-edge 7, +edge 7 %d %d %s", e.From, e.To, e.Type)
			b := graphOf(three, edge(5, 1, 2, "T"), e, edge(9, 1, 2, "T"))
			ofIs(t, a, b, added)
			b.Edges[1].Props = []api.Prop{prop("a", 1), prop("b", 2)}
			ofIs(t, a, b, added+", eset 7 a 1, eset 7 b 2")
		}
	}
	// Two edges that exchange their places are both replaced.
	a := graphOf(three, edge(1, 1, 2, "T", prop("k", 1)), edge(2, 2, 3, "T"))
	b := graphOf(three, edge(1, 2, 3, "T"), edge(2, 1, 2, "T", prop("k", 1)))
	ofIs(t, a, b, "-edge 1, -edge 2, +edge 1 2 3 T, +edge 2 1 2 T, eset 2 k 1")
	// The first and the last of several, and all of them.
	all := []api.Edge{edge(1, 1, 2, "T"), edge(2, 1, 2, "T"), edge(3, 1, 2, "T")}
	ofIs(t, graphOf(three, all...), graphOf(three, edge(1, 1, 2, "U"), all[1], edge(3, 1, 1, "T")), "-edge 1, -edge 3, +edge 1 1 2 U, +edge 3 1 1 T")
	ofIs(t, graphOf(three, all...), graphOf(three, edge(1, 2, 1, "T"), edge(2, 3, 1, "T"), edge(3, 1, 3, "T")), "-edge 1, -edge 2, -edge 3, +edge 1 2 1 T, +edge 2 3 1 T, +edge 3 1 3 T")
}

// P11.1, P11.2: edges at nodes that are gone or new. What is removed goes first from the edges to the nodes, what is added comes last from the nodes to the edges.
func TestOfEdgesAtOtherNodes(t *testing.T) {
	a := graphOf(pair(), edge(1, 1, 2, "T", prop("w", 1)))
	ofIs(t, a, graphOf(nodes(node(1, ""))), "-edge 1, -node 2")
	ofIs(t, a, graphOf(nodes(node(2, ""))), "-edge 1, -node 1")
	ofIs(t, a, graphOf(nodes(node(1, "")), edge(1, 1, 1, "T")), "-edge 1, -node 2, +edge 1 1 1 T")
	ofIs(t, a, graphOf(nodes(node(1, ""), node(3, "")), edge(1, 1, 3, "T", prop("w", 1))), "-edge 1, -node 2, +node 3, +edge 1 1 3 T, eset 1 w 1")
	ofIs(t, a, graphOf(nodes(node(2, ""), node(3, "")), edge(1, 3, 2, "T", prop("v", 1))), "-edge 1, -node 1, +node 3, +edge 1 3 2 T, eset 1 v 1")
	ofIs(t, a, graphOf(nodes(node(3, ""), node(4, "")), edge(1, 3, 4, "T")), "-edge 1, -node 1, -node 2, +node 3, +node 4, +edge 1 3 4 T")
	ofIs(t, a, graphOf(nodes(node(3, "A")), edge(1, 3, 3, "T", prop("w", 1))), "-edge 1, -node 1, -node 2, +node 3, +label 3 A, +edge 1 3 3 T, eset 1 w 1")
	ofIs(t, a, graphOf(nodes(node(1, ""), node(2, ""), node(3, "")), edge(1, 1, 2, "T", prop("w", 1)), edge(2, 3, 1, "T"), edge(3, 2, 3, "T")), "+node 3, +edge 2 3 1 T, +edge 3 2 3 T")
	ofIs(t, graphOf(pair(), edge(4, 2, 2, "T")), graphOf(nodes(node(1, "")), edge(4, 1, 1, "T")), "-edge 4, -node 2, +edge 4 1 1 T")
}

// P11.1: labels that only one side has, in their order by bytes.
func TestOfLabels(t *testing.T) {
	for _, c := range []struct{ before, after, want string }{
		{"", "", ""},
		{"A B C", "A B C", ""},
		{"", "A", "+label 7 A"},
		{"A", "", "-label 7 A"},
		{"A", "a", "-label 7 A, +label 7 a"},
		{"B", "A C", "-label 7 B, +label 7 A, +label 7 C"},
		{"A C", "B", "-label 7 A, -label 7 C, +label 7 B"},
		{"A B C", "B", "-label 7 A, -label 7 C"},
		{"B", "A B C", "+label 7 A, +label 7 C"},
		{"A B C", "D E F", "-label 7 A, -label 7 B, -label 7 C, +label 7 D, +label 7 E, +label 7 F"},
		{"D E F", "A B C", "-label 7 D, -label 7 E, -label 7 F, +label 7 A, +label 7 B, +label 7 C"},
		{"A A1 AB A_ Aa B a", "", "-label 7 A, -label 7 A1, -label 7 AB, -label 7 A_, -label 7 Aa, -label 7 B, -label 7 a"},
		{"", "A A1 AB A_ Aa B a", "+label 7 A, +label 7 A1, +label 7 AB, +label 7 A_, +label 7 Aa, +label 7 B, +label 7 a"},
		{"A1 B", "A A10", "-label 7 A1, -label 7 B, +label 7 A, +label 7 A10"},
	} {
		ofIs(t, graphOf(nodes(node(6, "Z"), node(7, c.before), node(8, ""))), graphOf(nodes(node(6, "Z"), node(7, c.after), node(8, ""))), c.want)
	}
	// A label is compared within its own node only.
	ofIs(t, graphOf(nodes(node(1, "A"), node(2, "B"))), graphOf(nodes(node(1, "B"), node(2, "A"))), "-label 1 A, +label 1 B, -label 2 B, +label 2 A")
}

// props returns the properties that literal reads from text: keys and values in turn.
func props(text string) []api.Prop {
	words := strings.Fields(text)
	var l []api.Prop
	for i := 0; i < len(words); i += 2 {
		l = append(l, prop(words[i], literal(words[i+1])))
	}
	return l
}

// P11.1: keys that only one side has, and values that are identical, of the same kind, or of another one, of nodes as well as edges.
func TestOfProps(t *testing.T) {
	for _, c := range []struct{ before, after, want string }{
		{"", "", ""},
		{"k 1", "k 1", ""},
		{"", "k 1", "set 7 k 1"},
		{"k 1", "", "set 7 k null"},
		{"k 1", "k 2", "set 7 k 2"},
		{"k 1", "k -1", "set 7 k -1"},
		{"k 1", "k 1000000000000000", "set 7 k 1000000000000000"},
		{"k -1000000000000000", "k 1000000000000000", "set 7 k 1000000000000000"},
		{"k 'a'", "k 'A'", "set 7 k 'A'"},
		{"k 'a'", "k 'ab'", "set 7 k 'ab'"},
		{"k 'a'", "k ''", "set 7 k ''"},
		{"k ''", "k ''", ""},
		{"k false", "k true", "set 7 k true"},
		{"k true", "k false", "set 7 k false"},
		{"k true", "k true", ""},
		// The same number in another kind.
		{"k 1", "k true", "set 7 k true"},
		{"k true", "k 1", "set 7 k 1"},
		{"k 0", "k false", "set 7 k false"},
		{"k false", "k 0", "set 7 k 0"},
		{"k 0", "k ''", "set 7 k ''"},
		{"k false", "k ''", "set 7 k ''"},
		{"k 1", "k '1'", "set 7 k '1'"},
		{"k '1'", "k 1", "set 7 k 1"},
		{"k 'true'", "k true", "set 7 k true"},
		{"k false", "k 'false'", "set 7 k 'false'"},
		{"k 1", "k 'null'", "set 7 k 'null'"},
		// More than one key.
		{"a 1 b 2 c 3", "a 1 b 2 c 3", ""},
		{"a 1 b 2 c 3", "b 2", "set 7 a null, set 7 c null"},
		{"b 2", "a 1 b 2 c 3", "set 7 a 1, set 7 c 3"},
		{"a 1 b 2 c 3", "a 1 b 3 c 3", "set 7 b 3"},
		{"a 1 b 2", "a 2 b 1", "set 7 a 2, set 7 b 1"},
		{"a 1", "b 1", "set 7 a null, set 7 b 1"},
		{"b 1", "a 1", "set 7 b null, set 7 a 1"},
		{"a 1 c 1 e 1 g 1", "b 1 c 2 d 1 e 1 f 1", "set 7 a null, set 7 g null, set 7 b 1, set 7 c 2, set 7 d 1, set 7 f 1"},
		{"K 1 k 1 k1 1 k10 1 k_ 1 kk 1", "", "set 7 K null, set 7 k null, set 7 k1 null, set 7 k10 null, set 7 k_ null, set 7 kk null"},
		{"", "K 1 k 2 k1 3 k10 4 k_ 5 kk 6", "set 7 K 1, set 7 k 2, set 7 k1 3, set 7 k10 4, set 7 k_ 5, set 7 kk 6"},
	} {
		a, b := node(7, "", props(c.before)...), node(7, "", props(c.after)...)
		ofIs(t, graphOf(nodes(node(5, "", prop("k", 1)), a)), graphOf(nodes(node(5, "", prop("k", 1)), b)), c.want)
		e, f := edge(7, 5, 5, "T", props(c.before)...), edge(7, 5, 5, "T", props(c.after)...)
		bare := nodes(node(5, ""))
		ofIs(t, graphOf(bare, edge(2, 5, 5, "T", prop("k", 1)), e), graphOf(bare, edge(2, 5, 5, "T", prop("k", 1)), f), strings.ReplaceAll(c.want, "set", "eset"))
	}
	// A property is compared within its own node or edge only.
	ofIs(t, graphOf(nodes(node(1, "", prop("k", 1)), node(2, "", prop("k", 2)))), graphOf(nodes(node(1, "", prop("k", 2)), node(2, "", prop("k", 1)))), "set 1 k 2, set 2 k 1")
	ofIs(t, graphOf(pair(), edge(1, 1, 2, "T", prop("k", 1)), edge(2, 1, 2, "T", prop("k", 2))), graphOf(pair(), edge(1, 1, 2, "T", prop("k", 2)), edge(2, 1, 2, "T", prop("k", 1))), "eset 1 k 2, eset 2 k 1")
	ofIs(t, graphOf(nodes(node(1, "", prop("k", 1))), edge(1, 1, 1, "T")), graphOf(nodes(node(1, "")), edge(1, 1, 1, "T", prop("k", 1))), "set 1 k null, eset 1 k 1")
}

// P11.1: the four groups of a node stand together, before those of the next node, and likewise the two of an edge.
func TestOfGroupsOfElements(t *testing.T) {
	a := graphOf(nodes(node(2, "A B", props("a 1 b 2 c 3")...), node(10, "A", props("k 1")...)), edge(2, 2, 10, "T", props("a 1 b 2")...), edge(10, 2, 10, "T", props("k 1 m 1")...))
	b := graphOf(nodes(node(2, "C D", props("b 3 d 4 e 5")...), node(10, "B", props("m 'x'")...)), edge(2, 2, 10, "T", props("A 1 b true")...), edge(10, 2, 10, "T", props("k 2 l 3")...))
	ofIs(t, a, b, "-label 2 A, -label 2 B, set 2 a null, set 2 c null, +label 2 C, +label 2 D, set 2 b 3, set 2 d 4, set 2 e 5, "+
		"-label 10 A, set 10 k null, +label 10 B, set 10 m 'x', "+
		"eset 2 a null, eset 2 A 1, eset 2 b true, eset 10 m null, eset 10 k 2, eset 10 l 3")
}

// P11.1: all groups in one script, in their order, and each in the order of ids, which are numbers.
func TestOfAllGroups(t *testing.T) {
	b := graphOf(nodes(
		node(1, "A C", prop("a", true), prop("c", "x"), prop("d", 0)),
		node(3, "B"),
		node(11, "A", prop("a", 1)),
		node(20, "C", prop("z", "")),
		node(100, "A", prop("k", "v")),
	),
		edge(2, 100, 1, "T", prop("k", 1)),
		edge(3, 1, 11, "T", prop("a", 1), prop("w", "x")),
		edge(7, 3, 3, "V"),
		edge(30, 11, 11, "T", prop("n", 5)),
		edge(40, 20, 100, "T", prop("b", true), prop("c", false)),
	)
	ofIs(t, sample(), b, "-edge 3, -edge 4, -edge 12, -node 2, -node 10, +node 3, +node 100, "+
		"-label 1 B, set 1 b null, +label 1 C, set 1 a true, set 1 d 0, +label 3 B, +label 100 A, set 100 k 'v', "+
		"+edge 2 100 1 T, +edge 3 1 11 T, +edge 7 3 3 V, +edge 40 20 100 T, "+
		"eset 2 k 1, eset 3 a 1, eset 3 w 'x', eset 30 n 5, eset 40 b true, eset 40 c false")
	ofIs(t, b, sample(), "-edge 2, -edge 3, -edge 7, -edge 40, -node 3, -node 100, +node 2, +node 10, "+
		"-label 1 C, set 1 d null, +label 1 B, set 1 a 1, set 1 b true, +label 2 B, "+
		"+edge 3 1 10 T, +edge 4 1 10 T, +edge 12 10 1 U, "+
		"eset 3 a 1, eset 3 w 'x', eset 12 w false, eset 30 n null")
}

// named returns n names in increasing order.
func named(prefix string, n int) []string {
	var l []string
	for i := range n {
		l = append(l, fmt.Sprintf("%s%02d", prefix, i))
	}
	return l
}

// fullProps returns as many properties as a node or an edge can have.
func fullProps(prefix string, x any) []api.Prop {
	var l []api.Prop
	for _, key := range named(prefix, api.MaxProps) {
		l = append(l, prop(key, x))
	}
	return l
}

// P11.2: a node and an edge that are full of labels and properties before and afterwards: there is room for what comes once the others are gone.
func TestOfFullElements(t *testing.T) {
	n := api.Node{Id: 1, Labels: named("m", 8), Props: fullProps("m", 1)}
	a := graphOf(nodes(n), edge(1, 1, 1, "T", fullProps("m", 1)...))
	for _, prefix := range []string{"a", "m", "z"} {
		for _, x := range []any{1, true, "1"} {
			n := api.Node{Id: 1, Labels: named(prefix, 8), Props: fullProps(prefix, x)}
			b := graphOf(nodes(n), edge(1, 1, 1, "T", fullProps(prefix, x)...))
			l, err := delta.Of(a, b)
			leadsTo(t, a, b, l)
			want := 16 + 32 + 32
			if prefix == "m" && x == 1 {
				want = 0
			} else if prefix == "m" {
				want = 16 + 16
			}
			if err != api.OK || len(l) != want {
				t.Errorf("Of a full graph and one with names %s and values %v: %d changes, %d, want %d", prefix, x, len(l), err, want)
			}
		}
	}
}

// largest returns a valid graph with as much in it as is possible. Its ids begin with first.
func largest(first int, prefix string) api.Graph {
	var l []api.Node
	for i := range api.MaxNodes {
		l = append(l, api.Node{Id: first + i, Labels: named(prefix, 8), Props: fullProps(prefix, i)})
	}
	var edges []api.Edge
	for i := range api.MaxEdges {
		edges = append(edges, edge(first+i, first+i%api.MaxNodes, first+i*i%api.MaxNodes, "T", fullProps(prefix, i)...))
	}
	return graphOf(l, edges...)
}

// P11.2: the largest graphs: with other ids, with the same ids and other contents, and with every edge replaced.
func TestOfLargestGraphs(t *testing.T) {
	a := largest(1, "m")
	turned := copied(a)
	for i := range turned.Edges {
		turned.Edges[i].Type = "U"
	}
	for _, c := range []struct {
		what string
		b    api.Graph
		size int
	}{
		{"other ids", largest(996001, "m"), 4000 + 2000 + 2000*25 + 4000*17},
		{"some other ids", largest(1001, "m"), 0},
		{"other names", largest(1, "a"), 2000*48 + 4000*32},
		{"other types", turned, 4000 + 4000*17},
		{"nothing else", copied(a), 0},
	} {
		// The graphs are too large for a report.
		l, err := delta.Of(a, c.b)
		h, _, e := change.ApplyAll(a, l)
		if err != api.OK || e != api.OK || graph.Check(h) != api.OK || !delta.Alike(h, c.b) {
			t.Errorf("%s: %d, %d", c.what, err, e)
		}
		if c.size > 0 && len(l) != c.size || (len(l) == 0) != delta.Alike(a, c.b) {
			t.Errorf("%s: %d changes, want %d", c.what, len(l), c.size)
		}
	}
}

// invalid returns graphs that graph.Check rejects, by the error.
func invalid() map[api.Errno][]api.Graph {
	return map[api.Errno][]api.Graph{
		api.ErrLong: {
			{Nodes: make([]api.Node, 2001), NextNode: 1, NextEdge: 1},
			{Edges: make([]api.Edge, 4001)},
			sampleWith(func(g *api.Graph) { g.Nodes[0].Labels = named("a", 9) }),
			sampleWith(func(g *api.Graph) { g.Nodes[4].Props = append(fullProps("a", 1), prop("b", 1)) }),
			sampleWith(func(g *api.Graph) { g.Edges[3].Props = append(fullProps("a", 1), prop("b", 1)) }),
		},
		api.ErrArg: {
			{},
			{NextNode: 0, NextEdge: 1},
			{NextNode: 1, NextEdge: 1000002},
			{NextNode: math.MinInt, NextEdge: math.MaxInt},
			sampleWith(func(g *api.Graph) { g.NextNode = 20 }),
			sampleWith(func(g *api.Graph) { g.NextEdge = 30 }),
			sampleWith(func(g *api.Graph) { g.Nodes[0].Id = 0 }),
			sampleWith(func(g *api.Graph) { g.Nodes[0].Id = -1 }),
			sampleWith(func(g *api.Graph) { g.Edges[0].Id = 0 }),
		},
		api.ErrOrder: {
			sampleWith(func(g *api.Graph) { g.Nodes[0], g.Nodes[1] = g.Nodes[1], g.Nodes[0] }),
			sampleWith(func(g *api.Graph) { g.Nodes = append(g.Nodes, g.Nodes[4]) }),
			sampleWith(func(g *api.Graph) { g.Edges[2], g.Edges[3] = g.Edges[3], g.Edges[2] }),
			sampleWith(func(g *api.Graph) { g.Edges = append(g.Edges, g.Edges[3]) }),
			sampleWith(func(g *api.Graph) { slices.Reverse(g.Nodes[0].Labels) }),
			sampleWith(func(g *api.Graph) { g.Nodes[0].Labels[1] = "A" }),
			sampleWith(func(g *api.Graph) { slices.Reverse(g.Nodes[0].Props) }),
			sampleWith(func(g *api.Graph) { g.Edges[0].Props[1].Key = "a" }),
		},
		api.ErrName: {
			sampleWith(func(g *api.Graph) { g.Nodes[4].Labels[0] = "" }),
			sampleWith(func(g *api.Graph) { g.Nodes[3].Labels[0] = "_A" }),
			sampleWith(func(g *api.Graph) { g.Nodes[3].Props[0].Key = strings.Repeat("a", 21) }),
			sampleWith(func(g *api.Graph) { g.Edges[1].Type = "" }),
			sampleWith(func(g *api.Graph) { g.Edges[3].Type = "T T" }),
			sampleWith(func(g *api.Graph) { g.Edges[2].Props[0].Key = "1" }),
		},
		api.ErrNode: {
			sampleWith(func(g *api.Graph) { g.Nodes = nil }),
			sampleWith(func(g *api.Graph) { g.Nodes = g.Nodes[1:] }),
			sampleWith(func(g *api.Graph) { g.Edges[0].From = 3 }),
			sampleWith(func(g *api.Graph) { g.Edges[3].To = 0 }),
		},
		api.ErrType: {
			sampleWith(func(g *api.Graph) { g.Nodes[0].Props[0].V = val(nil) }),
			sampleWith(func(g *api.Graph) { g.Nodes[4].Props[0].V = api.Value{Kind: api.VRat, N: 1, D: 2} }),
			sampleWith(func(g *api.Graph) { g.Nodes[4].Props[0].V = api.Value{Kind: api.VList} }),
			sampleWith(func(g *api.Graph) { g.Edges[2].Props[0].V = val(1000000000000001) }),
			sampleWith(func(g *api.Graph) { g.Edges[0].Props[1].V = api.Value{Kind: api.VNode, N: 1} }),
		},
	}
}

// P11.1: graphs that are not valid, as the first argument, as the second one, and as both: the first argument decides.
func TestOfInvalidGraphs(t *testing.T) {
	for err, graphs := range invalid() {
		for _, g := range graphs {
			if graph.Check(g) != err {
				t.Fatalf("Check(%s) = %d, want %d", brief(g), graph.Check(g), err)
			}
			for _, good := range []api.Graph{graph.New(), sample()} {
				ofFails(t, g, good, err)
				ofFails(t, good, g, err)
			}
			ofFails(t, g, g, err)
			for second, others := range invalid() {
				ofFails(t, g, others[len(others)-1], err)
				ofFails(t, others[len(others)-1], g, second)
			}
		}
	}
}

// P11.1, R4: two calls return equal results, even if what the first one returned has been changed.
func TestCallsAreApart(t *testing.T) {
	a, b := sample(), graphOf(nodes(node(1, "Z", prop("a", 2)), node(3, "")), edge(3, 1, 3, "T", prop("k", 1)))
	first, _ := delta.Of(a, b)
	want := slices.Clone(first)
	touched, edges := delta.Touched(first)
	wantNodes, wantEdges := slices.Clone(touched), slices.Clone(edges)
	clear(touched)
	clear(edges)
	clear(first)
	if got, _ := delta.Of(a, b); !slices.EqualFunc(got, want, change.Same) {
		t.Errorf("Of = %s, then %s", written(want), written(got))
	}
	if n, e := delta.Touched(want); !slices.Equal(n, wantNodes) || !slices.Equal(e, wantEdges) {
		t.Errorf("Touched = %v, %v, then %v, %v", wantNodes, wantEdges, n, e)
	}
}
