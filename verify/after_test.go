package verify_test

import (
	"graphdb/api"
	"graphdb/change"
	"graphdb/graph"
	"slices"
	"testing"
)

// These write changes as api has them.
func addNode(id int) api.Change { return api.Change{Op: api.AddNode, Id: id} }
func delNode(id int) api.Change { return api.Change{Op: api.DelNode, Id: id} }
func addLabel(id int, name string) api.Change {
	return api.Change{Op: api.AddLabel, Id: id, Name: name}
}
func delLabel(id int, name string) api.Change {
	return api.Change{Op: api.DelLabel, Id: id, Name: name}
}
func setNode(id int, key string, x any) api.Change {
	return api.Change{Op: api.SetNode, Id: id, Name: key, V: val(x)}
}
func addEdge(id, from, to int, name string) api.Change {
	return api.Change{Op: api.AddEdge, Id: id, From: from, To: to, Name: name}
}
func delEdge(id int) api.Change { return api.Change{Op: api.DelEdge, Id: id} }
func setEdge(id int, key string, x any) api.Change {
	return api.Change{Op: api.SetEdge, Id: id, Name: key, V: val(x)}
}

// sound returns a graph in which the rules of soundRules hold.
func sound() api.Graph {
	return api.Graph{
		Nodes:    []api.Node{node(1, "A", prop("k", 1)), node(2, "A", prop("k", 2)), node(3, "B")},
		Edges:    []api.Edge{edge(1, 1, 3, "T", prop("w", 1)), edge(2, 2, 3, "T", prop("w", 1))},
		NextNode: 4, NextEdge: 3,
	}
}

// soundRules returns a schema with a rule of each kind.
func soundRules() []api.Rule {
	return rules("unique A k", "exists A k", "kind A k int", "edge exists T w", "edge kind T w int", "ends T A B", "maxout T 1")
}

// P10.3: lists of changes that make violations, and those that make none, one by one and together.
func TestAfterMakesViolations(t *testing.T) {
	for _, c := range []struct {
		l    []api.Change
		want []api.Violation
	}{
		{nil, nil},
		{[]api.Change{}, nil},
		{[]api.Change{addNode(4)}, nil},
		{[]api.Change{addNode(9), addLabel(9, "A"), setNode(9, "k", 3)}, nil},
		{[]api.Change{setNode(1, "k", 3), setNode(3, "k", 3)}, nil},
		{[]api.Change{setNode(1, "k", 2)}, triples([][3]int{{0, 1, 2}})},
		{[]api.Change{setNode(1, "k", nil)}, triples([][3]int{{1, 1, 0}})},
		{[]api.Change{setNode(2, "k", "2")}, triples([][3]int{{2, 2, 0}})},
		{[]api.Change{setEdge(2, "w", nil)}, triples([][3]int{{3, 2, 0}})},
		{[]api.Change{setEdge(1, "w", true)}, triples([][3]int{{4, 1, 0}})},
		{[]api.Change{delLabel(3, "B")}, triples([][3]int{{5, 1, 0}, {5, 2, 0}})},
		{[]api.Change{delLabel(1, "A")}, triples([][3]int{{5, 1, 0}})},
		{[]api.Change{addEdge(3, 1, 3, "T"), setEdge(3, "w", 1)}, triples([][3]int{{6, 1, 0}})},
		{[]api.Change{addEdge(3, 1, 3, "T")}, triples([][3]int{{3, 3, 0}, {6, 1, 0}})},
		{[]api.Change{addNode(4), addLabel(4, "A"), setNode(4, "k", "1"), setNode(2, "k", "1"), setNode(1, "k", "1"), addEdge(7, 4, 4, "T"), setEdge(7, "w", "x")}, triples([][3]int{{0, 1, 2}, {0, 1, 4}, {0, 2, 4}, {2, 1, 0}, {2, 2, 0}, {2, 4, 0}, {4, 7, 0}, {5, 7, 0}})},
	} {
		afterIs(t, soundRules(), sound(), c.l, c.want, api.OK)
	}
}

// P10.3: lists of changes that remove violations, those that are in the graph and those that the list itself makes: only the graph at the end counts.
func TestAfterRemovesViolations(t *testing.T) {
	g, s := full(), rules("unique A k", "exists A k", "kind A k int", "edge exists T k", "edge kind T k int", "ends T B *", "maxout T 1")
	all := triples([][3]int{{0, 1, 2}, {1, 6, 0}, {2, 4, 0}, {3, 1, 0}, {4, 5, 0}, {5, 5, 0}, {6, 1, 0}})
	repairs := []struct {
		l     []api.Change
		rules []int
	}{
		{nil, nil},
		{[]api.Change{setNode(2, "k", 6)}, []int{0}},
		{[]api.Change{delLabel(1, "A")}, []int{0}},
		{[]api.Change{delNode(6)}, []int{1}},
		{[]api.Change{setNode(6, "k", 7)}, []int{1}},
		{[]api.Change{setNode(4, "k", 8)}, []int{2}},
		{[]api.Change{setEdge(1, "k", 1)}, []int{3}},
		{[]api.Change{delEdge(1)}, []int{3, 6}},
		{[]api.Change{setEdge(5, "k", 1)}, []int{4}},
		{[]api.Change{delEdge(5)}, []int{4, 5}},
		{[]api.Change{addLabel(4, "B")}, []int{5}},
		{[]api.Change{delEdge(5), delNode(4), delNode(6), delEdge(1), setNode(1, "k", nil), setNode(1, "k", 7)}, []int{0, 1, 2, 3, 4, 5, 6}},
		// A violation comes and goes.
		{[]api.Change{setNode(6, "k", 5), setNode(6, "k", nil)}, nil},
		{[]api.Change{addNode(7), addLabel(7, "A"), delLabel(7, "A")}, nil},
		{[]api.Change{addEdge(7, 6, 6, "T"), delEdge(7)}, nil},
	}
	for _, c := range repairs {
		want := slices.Clone(all)
		want = slices.DeleteFunc(want, func(v api.Violation) bool { return slices.Contains(c.rules, v.Rule) })
		afterIs(t, s, g, c.l, want, api.OK)
	}
}

// P10.3: lists of which the first, a middle or the last change can't be made: its error, and no violations, whether or not the schema is one.
func TestAfterOfChangesThatFail(t *testing.T) {
	good := []api.Change{addNode(9), addLabel(9, "A"), setNode(1, "k", 2), setEdge(1, "w", nil)}
	for _, c := range []struct {
		bad api.Change
		err api.Errno
	}{
		{api.Change{}, api.ErrArg},
		{api.Change{Op: 9, Id: 1}, api.ErrArg},
		{addNode(0), api.ErrArg},
		{addNode(1000001), api.ErrArg},
		{api.Change{Op: api.DelEdge, Id: 1, Name: "T"}, api.ErrArg},
		{addLabel(1, "9"), api.ErrName},
		{setNode(1, "", 1), api.ErrName},
		{setNode(1, "k", api.Value{Kind: api.VRat, N: 1, D: 2}), api.ErrType},
		{addNode(1), api.ErrTwice},
		{addLabel(1, "A"), api.ErrTwice},
		{addEdge(1, 1, 1, "T"), api.ErrTwice},
		{delNode(1), api.ErrUsed},
		{delNode(8), api.ErrNode},
		{setNode(8, "k", 1), api.ErrNode},
		{addEdge(3, 1, 8, "T"), api.ErrNode},
		{delEdge(9), api.ErrEdge},
		{setEdge(9, "w", 1), api.ErrEdge},
		{delLabel(1, "B"), api.ErrNone},
	} {
		for at := range len(good) + 1 {
			l := slices.Insert(slices.Clone(good), at, c.bad)
			afterIs(t, soundRules(), sound(), l, nil, c.err)
			afterIs(t, nil, sound(), l, nil, c.err)
			afterIs(t, rules("maxout T 1", "unique A k"), sound(), l, nil, c.err)
			afterIs(t, []api.Rule{{}}, sound(), l, nil, c.err)
			// The first change that fails decides.
			afterIs(t, soundRules(), sound(), append(l, delNode(1000000), addEdge(1, 0, 0, "")), nil, c.err)
		}
		afterIs(t, soundRules(), sound(), []api.Change{c.bad}, nil, c.err)
		// The graph has violations, too.
		afterIs(t, rules("exists A z", "edge exists T z"), sound(), []api.Change{c.bad}, nil, c.err)
	}
}

// P10.3: limits that a change would exceed.
func TestAfterOfFullGraphs(t *testing.T) {
	g := api.Graph{Nodes: many(2000), NextNode: 2010, NextEdge: 1}
	afterIs(t, rules("exists A z"), g, []api.Change{addNode(5000)}, nil, api.ErrFull)
	afterIs(t, rules("exists B z"), g, []api.Change{delNode(10), addNode(5000), addLabel(5000, "B")}, triples([][3]int{{0, 5000, 0}}), api.OK)
}

// P10.3: a list of rules that is no schema has no violations, but the changes must be possible all the same.
func TestAfterWithInvalidSchemas(t *testing.T) {
	for _, s := range [][]api.Rule{{{}}, rules("exists A k", "unique A k"), rules("unique A k", "unique A k"), {{Kind: api.RExists, Name: "A", Key: "9"}}, make([]api.Rule, 41)} {
		afterIs(t, s, full(), nil, nil, api.OK)
		afterIs(t, s, full(), []api.Change{delNode(6), setNode(1, "k", "5")}, nil, api.OK)
		afterIs(t, s, full(), []api.Change{delNode(6), delNode(6)}, nil, api.ErrNode)
		afterIs(t, s, api.Graph{}, nil, nil, api.ErrArg)
	}
}

// P10.3: graphs that are not valid: the error of graph.Check, before that of any change and whatever the rules are.
func TestAfterOfInvalidGraphs(t *testing.T) {
	graphs := invalid()
	for _, g := range graphs {
		err := graph.Check(g)
		for _, l := range [][]api.Change{nil, {addNode(100)}, {delNode(1)}, {{}}} {
			afterIs(t, rules("exists A k"), g, l, nil, err)
			afterIs(t, nil, g, l, nil, err)
			afterIs(t, []api.Rule{{}}, g, l, nil, err)
		}
	}
	// A few of them written out.
	afterIs(t, nil, api.Graph{}, []api.Change{{}}, nil, api.ErrArg)
	afterIs(t, nil, graphs["node twice"], []api.Change{{}}, nil, api.ErrOrder)
	afterIs(t, nil, graphs["too many nodes"], []api.Change{delNode(1)}, nil, api.ErrLong)
	afterIs(t, nil, graphs["source missing"], []api.Change{addNode(3)}, nil, api.ErrNode)
	afterIs(t, nil, graphs["type empty"], []api.Change{delEdge(6)}, nil, api.ErrName)
}

// P10.3: what undoes the changes of a list brings back the violations that were there before.
func TestAfterAndBack(t *testing.T) {
	s := rules("unique A k", "exists A k", "edge exists T k", "maxout T 1")
	want := triples([][3]int{{0, 1, 2}, {1, 6, 0}, {2, 1, 0}, {3, 1, 0}})
	l := []api.Change{delEdge(1), setNode(2, "k", nil), delNode(6), addNode(7), addLabel(7, "A")}
	back, _, err := change.Invert(full(), l)
	if err != api.OK {
		t.Fatal(err)
	}
	afterIs(t, s, full(), l, triples([][3]int{{1, 2, 0}, {1, 7, 0}}), api.OK)
	afterIs(t, s, full(), slices.Concat(l, back), want, api.OK)
}
