package verify_test

import (
	"fmt"
	"graphdb/api"
	"graphdb/graph"
	"graphdb/schema"
	"graphdb/verify"
	"math"
	"slices"
	"strings"
	"testing"
)

// plain returns values that can be properties, no two of them equal, though they are alike.
func plain() []api.Value {
	var l []api.Value
	for _, x := range []any{
		false, true, 0, 1, -1, 2, 10, 1000000000000000, 999999999999999, -1000000000000000,
		"", " ", "0", "1", "-1", "10", "true", "false", "null", "'", "''", "'1'", "a", "A", "a ", "aa", "~", strings.Repeat("a", 99), strings.Repeat("a", 100), strings.Repeat("a", 99) + "b", "b" + strings.Repeat("a", 99),
	} {
		l = append(l, val(x))
	}
	return l
}

// notPlain returns values that can't be properties, valid ones and others.
func notPlain() []api.Value {
	five := []api.Value{val(5)}
	return []api.Value{
		{}, {Kind: api.VRat, N: 1, D: 2}, {Kind: api.VNode, N: 1}, {Kind: api.VEdge, N: 1}, {Kind: api.VPath, L: []api.Value{{Kind: api.VNode, N: 1}}}, {Kind: api.VList}, {Kind: api.VList, L: five},
		{Kind: api.VBool, N: 2}, {Kind: api.VInt, N: api.MaxInt + 1}, {Kind: api.VInt, N: math.MinInt}, {Kind: api.VInt, N: 5, D: 1}, {Kind: api.VInt, N: 5, S: "5"}, {Kind: api.VInt, N: 5, L: five}, {Kind: api.VStr, S: "\n"}, {Kind: api.VStr, S: strings.Repeat("a", 101)}, {Kind: api.VStr, S: "a", N: 1}, {Kind: 9}, {Kind: -1}, {N: 5},
	}
}

// P10.1: the examples of the chapter.
func TestOfExamples(t *testing.T) {
	two := graphOf([]api.Node{node(1, "A", prop("k", 5)), node(2, "A", prop("k", 5))})
	ofIs(t, rule("unique A k"), two, [][2]int{{1, 2}})
	one := graphOf([]api.Node{node(1, "A"), node(2, "B")}, edge(1, 1, 2, "T"))
	ofIs(t, rule("ends T A A"), one, alone(1))
	ofIs(t, rule("ends T A *"), one, nil)
	ofIs(t, rule("maxout T 0"), one, alone(1))
}

// P10.1, P10.2: graphs without nodes and edges, and with nodes and edges without anything, of which the rules ask nothing.
func TestOfEmptyGraphs(t *testing.T) {
	bare := graphOf([]api.Node{node(1, ""), node(2, "")}, edge(1, 1, 2, "X"))
	for _, text := range []string{"unique A k", "exists A k", "kind A k int", "edge exists T k", "edge kind T k int", "ends T A B", "ends T * *", "maxout T 0"} {
		ofIs(t, rule(text), graph.New(), nil)
		ofIs(t, rule(text), api.Graph{Nodes: []api.Node{}, Edges: []api.Edge{}, NextNode: 7, NextEdge: 9}, nil)
		ofIs(t, rule(text), bare, nil)
	}
}

// P10.1: RUnique with no, one, two and more nodes of a value, whose ids have gaps, and several values in turn.
func TestOfUnique(t *testing.T) {
	for _, c := range []struct {
		values []any // of the nodes 3, 6, 9, ..; nil: the property is missing
		want   [][2]int
	}{
		{nil, nil},
		{[]any{nil}, nil},
		{[]any{5}, nil},
		{[]any{5, 6}, nil},
		{[]any{nil, nil}, nil},
		{[]any{5, nil}, nil},
		{[]any{5, 5}, [][2]int{{3, 6}}},
		{[]any{5, nil, 5}, [][2]int{{3, 9}}},
		{[]any{nil, 5, nil, 6, 5, nil}, [][2]int{{6, 15}}},
		{[]any{5, 5, 5}, [][2]int{{3, 6}, {3, 9}, {6, 9}}},
		{[]any{5, 6, 5, 6}, [][2]int{{3, 9}, {6, 12}}},
		{[]any{5, 6, 6, 5}, [][2]int{{3, 12}, {6, 9}}},
		{[]any{6, 5, 5, 6, 5}, [][2]int{{3, 12}, {6, 9}, {6, 15}, {9, 15}}},
		{[]any{"b", "a", "b", "a", "b", "a"}, [][2]int{{3, 9}, {3, 15}, {6, 12}, {6, 18}, {9, 15}, {12, 18}}},
		{[]any{5, 5, 5, 5}, [][2]int{{3, 6}, {3, 9}, {3, 12}, {6, 9}, {6, 12}, {9, 12}}},
		{[]any{true, 1, "1", "true", false, 0, "0", "", "false"}, nil},
		{[]any{true, 1, "1", "1", 1, true}, [][2]int{{3, 18}, {6, 15}, {9, 12}}},
	} {
		var nodes []api.Node
		for i, x := range c.values {
			n := node(3*i+3, "A")
			if x != nil {
				n.Props = []api.Prop{prop("k", x)}
			}
			nodes = append(nodes, n)
		}
		ofIs(t, rule("unique A k"), graphOf(nodes), c.want)
	}
}

// P10.1: RUnique with two nodes of any two values: only a value and itself are equal, whatever their kinds are.
func TestOfUniqueValues(t *testing.T) {
	for i, v := range plain() {
		for j, w := range plain() {
			var want [][2]int
			if i == j {
				want = [][2]int{{1, 2}}
			}
			ofIs(t, rule("unique A k"), graphOf([]api.Node{node(1, "A", prop("k", v)), node(2, "A", prop("k", w))}), want)
		}
	}
	// A list of no values is the same whether it is nil or empty.
	empty := api.Value{Kind: api.VInt, N: 5, L: []api.Value{}}
	ofIs(t, rule("unique A k"), graphOf([]api.Node{node(1, "A", prop("k", 5)), node(2, "A", prop("k", empty))}), [][2]int{{1, 2}})
}

// P10.1: nodes that lack the label or the property, that have others before and behind it, and edges that have the label's name as their type.
func TestOfNodesByLabelAndKey(t *testing.T) {
	g := graphOf([]api.Node{
		node(1, "A", prop("k", 5)),
		node(2, "", prop("k", 5)),
		node(3, "B", prop("k", 5)),
		node(4, "A"),
		node(5, "A", prop("j", 5)),
		node(6, "A B", prop("j", 6), prop("k", 5), prop("m", 7)),
		node(7, "AA a", prop("k", 5)),
		node(8, "A", prop("K", 5), prop("j", 5), prop("kk", 5)),
		node(9, "A AA", prop("k", "5")),
		node(11, "A B C", prop("a", 5), prop("j", 5), prop("k", 5)),
		node(12, "B C"),
	}, edge(1, 1, 1, "A", prop("k", 5)), edge(2, 1, 1, "A"), edge(3, 1, 2, "A", prop("k", "5")))
	for text, want := range map[string][][2]int{
		"unique A k":    {{1, 6}, {1, 11}, {6, 11}},
		"unique B k":    {{3, 6}, {3, 11}, {6, 11}},
		"unique C k":    nil,
		"unique A j":    {{5, 8}, {5, 11}, {8, 11}},
		"unique AA k":   nil,
		"unique A m":    nil,
		"unique D k":    nil,
		"unique A z":    nil,
		"exists A k":    alone(4, 5, 8),
		"exists B k":    alone(12),
		"exists C k":    alone(12),
		"exists B j":    alone(3, 12),
		"exists A m":    alone(1, 4, 5, 8, 9, 11),
		"exists A z":    alone(1, 4, 5, 6, 8, 9, 11),
		"exists AA j":   alone(7, 9),
		"exists a k":    nil,
		"exists a j":    alone(7),
		"exists D k":    nil,
		"kind A k int":  alone(9),
		"kind A k str":  alone(1, 6, 11),
		"kind A k bool": alone(1, 6, 9, 11),
		"kind B k int":  nil,
		"kind B k str":  alone(3, 6, 11),
		"kind C k bool": alone(11),
		"kind A j str":  alone(5, 6, 8, 11),
		"kind A j int":  nil,
		"kind A m bool": alone(6),
		"kind AA k int": alone(9),
		"kind AA k str": alone(7),
		"kind D k int":  nil,
		"kind A z int":  nil,
	} {
		ofIs(t, rule(text), g, want)
	}
}

// P10.1: RKind and REdgeKind with each kind of values, against the values of each kind.
func TestOfKinds(t *testing.T) {
	words := map[int]string{api.VBool: "bool", api.VInt: "int", api.VStr: "str"}
	for kind, word := range words {
		for _, v := range plain() {
			var want [][2]int
			if v.Kind != kind {
				want = alone(7)
			}
			nodes := []api.Node{node(7, "A", prop("k", v)), node(8, "", prop("k", v))}
			ofIs(t, rule("kind A k "+word), graphOf(nodes, edge(3, 7, 8, "A", prop("k", v))), want)
			ofIs(t, rule("edge kind T k "+word), graphOf(nodes, edge(3, 7, 8, "A", prop("k", v)), edge(7, 8, 8, "T", prop("k", v)), edge(8, 7, 7, "T")), want)
		}
	}
}

// P10.1: edges of other types, that lack the property, that have others before and behind it, and nodes that have the type's name as their label.
func TestOfEdgesByTypeAndKey(t *testing.T) {
	g := graphOf([]api.Node{node(1, "T"), node(2, "T", prop("k", 5)), node(30, "T", prop("k", "5"))},
		edge(1, 1, 2, "T", prop("k", 5)),
		edge(2, 1, 2, "T"),
		edge(3, 2, 1, "U"),
		edge(4, 1, 1, "T", prop("K", 5), prop("j", 5), prop("kk", 5)),
		edge(5, 30, 30, "T", prop("j", 5), prop("k", "5"), prop("m", true)),
		edge(6, 1, 2, "U", prop("k", true)),
		edge(7, 1, 2, "TT", prop("j", 5)),
		edge(9, 1, 2, "t"),
		edge(40, 2, 30, "T", prop("k", 6)),
	)
	for text, want := range map[string][][2]int{
		"edge exists T k":    alone(2, 4),
		"edge exists T j":    alone(1, 2, 40),
		"edge exists T m":    alone(1, 2, 4, 40),
		"edge exists T z":    alone(1, 2, 4, 5, 40),
		"edge exists U k":    alone(3),
		"edge exists TT j":   nil,
		"edge exists TT k":   alone(7),
		"edge exists t k":    alone(9),
		"edge exists V k":    nil,
		"edge kind T k int":  alone(5),
		"edge kind T k str":  alone(1, 40),
		"edge kind T k bool": alone(1, 5, 40),
		"edge kind T j int":  nil,
		"edge kind T j str":  alone(4, 5),
		"edge kind T m bool": nil,
		"edge kind T m str":  alone(5),
		"edge kind U k bool": nil,
		"edge kind U k int":  alone(6),
		"edge kind TT j str": alone(7),
		"edge kind t k str":  nil,
		"edge kind V k int":  nil,
		"edge kind T z int":  nil,
	} {
		ofIs(t, rule(text), g, want)
	}
}

// P10.1: REnds with edges from each node to each, loops among them, where the nodes have any of two labels: 1 A, 2 B, 3 both, 4 none.
func TestOfEnds(t *testing.T) {
	g := graphOf([]api.Node{node(1, "A"), node(2, "B"), node(3, "A B"), node(4, "")})
	for from := 1; from <= 4; from++ {
		for to := 1; to <= 4; to++ {
			g.Edges = append(g.Edges, edge(10*from+to, from, to, "T"))
		}
	}
	nodesWith := map[string][]int{"*": {1, 2, 3, 4}, "A": {1, 3}, "B": {2, 3}, "C": nil}
	for from, sources := range nodesWith {
		for to, targets := range nodesWith {
			var want [][2]int
			for _, e := range g.Edges {
				if !slices.Contains(sources, e.From) || !slices.Contains(targets, e.To) {
					want = append(want, [2]int{e.Id, 0})
				}
			}
			ofIs(t, rule("ends T "+from+" "+to), g, want)
			ofIs(t, rule("ends U "+from+" "+to), g, nil)
		}
	}
	// Some of them written out.
	ofIs(t, rule("ends T * *"), g, nil)
	ofIs(t, rule("ends T A *"), g, alone(21, 22, 23, 24, 41, 42, 43, 44))
	ofIs(t, rule("ends T * B"), g, alone(11, 14, 21, 24, 31, 34, 41, 44))
	ofIs(t, rule("ends T A B"), g, alone(11, 14, 21, 22, 23, 24, 31, 34, 41, 42, 43, 44))
}

// P10.1: REnds with parallel edges, loops and edges of other types, where the label is one of several, and where a key has its name.
func TestOfEndsOfSomeEdges(t *testing.T) {
	g := graphOf([]api.Node{node(2, "A B C"), node(5, "C D"), node(7, "AA", prop("A", 1), prop("C", "A"))},
		edge(1, 2, 5, "T"), edge(2, 2, 5, "T"), edge(3, 2, 5, "U"), edge(4, 5, 5, "T"), edge(5, 5, 2, "T"), edge(6, 5, 2, "T"), edge(7, 7, 5, "T", prop("A", "A")), edge(8, 2, 7, "T"), edge(9, 7, 7, "U"), edge(11, 2, 2, "A"),
	)
	for text, want := range map[string][][2]int{
		"ends T B *":  alone(4, 5, 6, 7),
		"ends T * B":  alone(1, 2, 4, 7, 8),
		"ends T C C":  alone(7, 8),
		"ends T A D":  alone(4, 5, 6, 7, 8),
		"ends T D D":  alone(1, 2, 5, 6, 7, 8),
		"ends T D A":  alone(1, 2, 4, 7, 8),
		"ends T * *":  nil,
		"ends U * C":  alone(9),
		"ends U C *":  alone(9),
		"ends U D C":  alone(3, 9),
		"ends U AA *": alone(3),
		"ends A D *":  alone(11),
		"ends A A C":  nil,
		"ends C A A":  nil,
	} {
		ofIs(t, rule(text), g, want)
	}
}

// P10.1: RMaxOut with fewer edges than N, as many, and more, where edges of other types, incoming ones, loops and parallel ones meet.
func TestOfMaxOut(t *testing.T) {
	g := graphOf([]api.Node{node(1, "T"), node(2, ""), node(3, "T"), node(9, "A", prop("T", 9))},
		// Of type T begin three at 1 (a loop and two parallel ones), one at 2, none at 3, and two loops at 9.
		edge(1, 1, 1, "T"), edge(2, 1, 3, "T"), edge(3, 1, 3, "T"), edge(4, 2, 3, "T"), edge(10, 9, 9, "T"), edge(11, 9, 9, "T", prop("k", 1)),
		// Of type U: four at 3, one at 1, one at 9.
		edge(20, 3, 1, "U"), edge(21, 3, 2, "U"), edge(22, 3, 2, "U"), edge(23, 3, 3, "U"), edge(24, 1, 2, "U"), edge(25, 9, 1, "U"),
		// And one of a type that begins like T.
		edge(30, 2, 2, "TT"),
	)
	for text, want := range map[string][][2]int{
		"maxout T 0":    alone(1, 2, 9),
		"maxout T 1":    alone(1, 9),
		"maxout T 2":    alone(1),
		"maxout T 3":    nil,
		"maxout T 4":    nil,
		"maxout T 4000": nil,
		"maxout U 0":    alone(1, 3, 9),
		"maxout U 1":    alone(3),
		"maxout U 3":    alone(3),
		"maxout U 4":    nil,
		"maxout TT 0":   alone(2),
		"maxout TT 1":   nil,
		"maxout V 0":    nil,
		"maxout A 0":    nil,
	} {
		ofIs(t, rule(text), g, want)
	}
}

// P10.1: graphs as large as they can be: as many pairs of nodes as possible, and as many edges at one node.
func TestOfLargeGraphs(t *testing.T) {
	g := api.Graph{NextNode: 2001, NextEdge: 4001}
	for id := 1; id <= 2000; id++ {
		g.Nodes = append(g.Nodes, node(id, "A", prop("k", strings.Repeat("x", 100)), prop("m", id%1000), prop("n", id)))
	}
	for id := 1; id <= 4000; id++ {
		g.Edges = append(g.Edges, edge(id, 2000, id/2+1-id/4000, "T"))
	}
	var all, some [][2]int
	for a := 1; a <= 2000; a++ {
		for b := a + 1; b <= 2000; b++ {
			all = append(all, [2]int{a, b})
		}
		if a <= 1000 {
			some = append(some, [2]int{a, a + 1000})
		}
	}
	for text, want := range map[string][][2]int{
		"unique A k":    all,
		"unique A m":    some,
		"unique A n":    nil,
		"maxout T 3998": alone(2000),
		"maxout T 3999": alone(2000),
		"maxout T 4000": nil,
	} {
		if got := verify.Of(rule(text), g); !slices.Equal(got, want) {
			t.Errorf("%s: %d pairs, want %d", text, len(got), len(want))
		}
	}
	for text, want := range map[string]int{"exists A z": 2000, "kind A k int": 2000, "edge exists T k": 4000, "ends T * B": 4000} {
		got := verify.Of(rule(text), g)
		if len(got) != want || got[0] != [2]int{1, 0} || got[want-1] != [2]int{want, 0} {
			t.Errorf("%s: %d pairs, want %d", text, len(got), want)
		}
	}
}

// P10.1: ids at the ends of their range.
func TestOfExtremeIds(t *testing.T) {
	g := graphOf([]api.Node{node(1, "A", prop("k", 5)), node(1000000, "A", prop("k", 5))}, edge(1, 1000000, 1, "T"), edge(1000000, 1000000, 1, "T"))
	ofIs(t, rule("unique A k"), g, [][2]int{{1, 1000000}})
	ofIs(t, rule("exists A z"), g, alone(1, 1000000))
	ofIs(t, rule("kind A k bool"), g, alone(1, 1000000))
	ofIs(t, rule("edge exists T k"), g, alone(1, 1000000))
	ofIs(t, rule("ends T B *"), g, alone(1, 1000000))
	ofIs(t, rule("maxout T 1"), g, alone(1000000))
}

// full returns a graph that violates rules of all kinds.
func full() api.Graph {
	return graphOf([]api.Node{node(1, "A B", prop("j", 1), prop("k", 5)), node(2, "A", prop("k", 5)), node(4, "A", prop("k", "5")), node(6, "A")},
		edge(1, 1, 2, "T"), edge(2, 1, 2, "T", prop("j", 1), prop("k", 5)), edge(5, 4, 4, "T", prop("k", true)), edge(6, 2, 1, "U"))
}

// broken returns rules of all kinds that full violates, by the pairs of nodes and edges that do.
func broken() map[string][][2]int {
	return map[string][][2]int{
		"unique A k":        {{1, 2}},
		"exists A k":        alone(6),
		"kind A k int":      alone(4),
		"edge exists T k":   alone(1),
		"edge kind T k int": alone(5),
		"ends T B *":        alone(5),
		"maxout T 1":        alone(1),
	}
}

// rejected returns rules that schema.Check rejects, though those who look at their other fields only find violations in full.
func rejected() []api.Rule {
	all := []api.Rule{{}, {Name: "A"}, {Name: "A", Key: "k"}}
	for _, kind := range []int{0, 8, 9, 10, -1, -7, 257, math.MinInt, math.MaxInt} {
		for _, name := range []string{"A", "T"} {
			all = append(all, api.Rule{Kind: kind, Name: name}, api.Rule{Kind: kind, Name: name, Key: "k"}, api.Rule{Kind: kind, Name: name, Key: "k", N: api.VInt}, api.Rule{Kind: kind, Name: name, From: "B", To: "B"}, api.Rule{Kind: kind, Name: name, N: 1})
		}
	}
	for text := range broken() {
		for _, spoil := range []func(r *api.Rule){
			func(r *api.Rule) { r.Kind += 7 },
			func(r *api.Rule) { r.Kind = -r.Kind },
			func(r *api.Rule) { r.Name = "" },
			func(r *api.Rule) { r.Name = "9" },
			func(r *api.Rule) { r.Name += " " },
			func(r *api.Rule) { r.N = -1 },
			func(r *api.Rule) { r.N = math.MinInt },
			func(r *api.Rule) { r.N = 4001 },
			func(r *api.Rule) { r.Key = "9" },
			func(r *api.Rule) { r.Key += "-" },
			func(r *api.Rule) { r.From = "*" },
			func(r *api.Rule) { r.From = "9" },
			func(r *api.Rule) { r.To = "*" },
			func(r *api.Rule) { r.To = strings.Repeat("x", 21) },
			func(r *api.Rule) { r.N, r.To = api.VNull, "é" },
		} {
			r := rule(text)
			spoil(&r)
			all = append(all, r)
		}
		r := rule(text)
		// Fields that the kind of the rule does not use.
		switch r.Kind {
		case api.RUnique, api.RExists, api.REdgeExists:
			all = append(all, with(r, func(r *api.Rule) { r.N = api.VInt }), with(r, func(r *api.Rule) { r.From = "A" }), with(r, func(r *api.Rule) { r.To = "A" }), with(r, func(r *api.Rule) { r.Key = "" }))
		case api.RKind, api.REdgeKind:
			all = append(all, with(r, func(r *api.Rule) { r.From = "A" }), with(r, func(r *api.Rule) { r.To = "A" }), with(r, func(r *api.Rule) { r.Key = "" }))
			for _, kind := range []int{api.VNull, api.VRat, api.VNode, api.VEdge, api.VPath, api.VList, 9, 4000} {
				all = append(all, with(r, func(r *api.Rule) { r.N = kind }))
			}
		case api.REnds:
			all = append(all, with(r, func(r *api.Rule) { r.N = 1 }), with(r, func(r *api.Rule) { r.Key = "k" }))
		case api.RMaxOut:
			all = append(all, with(r, func(r *api.Rule) { r.Key = "k" }), with(r, func(r *api.Rule) { r.From = "A" }), with(r, func(r *api.Rule) { r.To = "A" }))
		}
	}
	return all
}

// with returns r as edit leaves it.
func with(r api.Rule, edit func(r *api.Rule)) api.Rule {
	edit(&r)
	return r
}

// invalid returns graphs that graph.Check rejects, by what is wrong with them. Those who look no further find in them what violates the rules in full.
func invalid() map[string]api.Graph {
	all := map[string]api.Graph{"zero": {}}
	for what, spoil := range map[string]func(g *api.Graph){
		"no next node":           func(g *api.Graph) { g.NextNode = 0 },
		"no next edge":           func(g *api.Graph) { g.NextEdge = 0 },
		"next node too great":    func(g *api.Graph) { g.NextNode = 1000002 },
		"next edge negative":     func(g *api.Graph) { g.NextEdge = math.MinInt },
		"next node too small":    func(g *api.Graph) { g.NextNode = 6 },
		"next edge too small":    func(g *api.Graph) { g.NextEdge = 6 },
		"node twice":             func(g *api.Graph) { g.Nodes = append(g.Nodes, g.Nodes[3]) },
		"edge twice":             func(g *api.Graph) { g.Edges = append(g.Edges, g.Edges[3]) },
		"node id 0":              func(g *api.Graph) { g.Nodes = slices.Concat([]api.Node{{}}, g.Nodes) },
		"nodes out of order":     func(g *api.Graph) { g.Nodes[0], g.Nodes[1] = g.Nodes[1], g.Nodes[0] },
		"edges out of order":     func(g *api.Graph) { g.Edges[2], g.Edges[3] = g.Edges[3], g.Edges[2] },
		"too many nodes":         func(g *api.Graph) { g.Nodes = append(g.Nodes, many(1997)...) },
		"too many edges":         func(g *api.Graph) { g.Edges = append(g.Edges, loops(3997)...) },
		"too many labels":        func(g *api.Graph) { g.Nodes[0].Labels = strings.Fields("A B C D E F G H I") },
		"label not a name":       func(g *api.Graph) { g.Nodes[3].Labels = []string{"A", "B-"} },
		"label empty":            func(g *api.Graph) { g.Nodes[3].Labels = []string{"", "A"} },
		"labels out of order":    func(g *api.Graph) { g.Nodes[0].Labels = []string{"B", "A"} },
		"label twice":            func(g *api.Graph) { g.Nodes[0].Labels = []string{"A", "A", "B"} },
		"key not a name":         func(g *api.Graph) { g.Nodes[0].Props[0].Key = "" },
		"keys out of order":      func(g *api.Graph) { g.Nodes[0].Props[0].Key = "m" },
		"key twice":              func(g *api.Graph) { g.Nodes[0].Props[0].Key = "k" },
		"key of edge twice":      func(g *api.Graph) { g.Edges[1].Props[0].Key = "k" },
		"key of edge not a name": func(g *api.Graph) { g.Edges[1].Props[0].Key = "_" },
		"source missing":         func(g *api.Graph) { g.Edges[3].From = 3 },
		"target missing":         func(g *api.Graph) { g.Edges[3].To = 0 },
		"type empty":             func(g *api.Graph) { g.Edges[3].Type = "" },
		"type not a name":        func(g *api.Graph) { g.Edges[3].Type = "T T" },
		"nodes missing":          func(g *api.Graph) { g.Nodes = nil },
	} {
		g := copied(arguments{g: full()}).g
		spoil(&g)
		all[what] = g
	}
	for i, v := range notPlain() {
		for what, spoil := range map[string]func(g *api.Graph){
			"first of node": func(g *api.Graph) { g.Nodes[0].Props[0].V = v },
			"last of node":  func(g *api.Graph) { g.Nodes[2].Props[0].V = v },
			"of two nodes":  func(g *api.Graph) { g.Nodes[0].Props[1].V, g.Nodes[1].Props[0].V = v, v },
			"of edge":       func(g *api.Graph) { g.Edges[2].Props[0].V = v },
		} {
			g := copied(arguments{g: full()}).g
			spoil(&g)
			all[fmt.Sprint("value ", i, " ", what)] = g
		}
	}
	return all
}

// many returns n nodes with the label A behind those of full.
func many(n int) []api.Node {
	var l []api.Node
	for i := range n {
		l = append(l, node(10+i, "A", prop("k", 5)))
	}
	return l
}

// loops returns n edges of type T behind those of full.
func loops(n int) []api.Edge {
	var l []api.Edge
	for i := range n {
		l = append(l, edge(10+i, 1, 1, "T"))
	}
	return l
}

// P10.1, P10.2: rules that schema.Check rejects, graphs that graph.Check rejects, and both at once have no violations, whatever can be found in them.
func TestOfRejected(t *testing.T) {
	for text, want := range broken() {
		ofIs(t, rule(text), full(), want)
	}
	graphs := invalid()
	for _, r := range rejected() {
		if schema.Check(r) == api.OK {
			t.Fatalf("%+v is valid", r)
		}
		ofIs(t, r, full(), nil)
		ofIs(t, r, graph.New(), nil)
		ofIs(t, r, graphs["node twice"], nil)
		ofIs(t, r, api.Graph{}, nil)
	}
	for what, g := range graphs {
		if graph.Check(g) == api.OK {
			t.Fatalf("%s: the graph is valid", what)
		}
		for text := range broken() {
			ofIs(t, rule(text), g, nil)
		}
		ofIs(t, api.Rule{}, g, nil)
		ofIs(t, api.Rule{Kind: api.RExists, Name: "A", Key: "9"}, g, nil)
	}
}
