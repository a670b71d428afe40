package verify_test

import (
	"graphdb/api"
	"graphdb/graph"
	"graphdb/schema"
	"graphdb/verify"
	"slices"
	"testing"
)

// found returns a violation of the rule at that index for each pair.
func found(index int, pairs [][2]int) []api.Violation {
	var l []api.Violation
	for _, p := range pairs {
		l = append(l, api.Violation{Rule: index, A: p[0], B: p[1]})
	}
	return l
}

// triples returns the violations with these rules and ids.
func triples(l [][3]int) []api.Violation {
	var all []api.Violation
	for _, v := range l {
		all = append(all, api.Violation{Rule: v[0], A: v[1], B: v[2]})
	}
	return all
}

// sorted returns the schema with the rules of s.
func sorted(s []api.Rule) []api.Rule {
	return slices.SortedFunc(slices.Values(s), schema.Order)
}

// P10.2: no rules, rules that all hold, and one or more that are violated, before and behind those that hold.
func TestAll(t *testing.T) {
	g := full()
	for _, c := range []struct {
		s    []api.Rule
		want []api.Violation
	}{
		{nil, nil},
		{[]api.Rule{}, nil},
		{rules("unique B k"), nil},
		{rules("unique B k", "exists B k", "kind B k int", "edge exists X z", "maxout T 2"), nil},
		{rules("unique A k"), triples([][3]int{{0, 1, 2}})},
		{rules("unique A k", "unique B k"), triples([][3]int{{0, 1, 2}})},
		{rules("unique A j", "unique A k"), triples([][3]int{{1, 1, 2}})},
		{rules("unique A j", "unique A k", "unique B k"), triples([][3]int{{1, 1, 2}})},
		{rules("unique A k", "exists A j", "exists A k", "exists B k", "edge exists T j"), triples([][3]int{{0, 1, 2}, {1, 2, 0}, {1, 4, 0}, {1, 6, 0}, {2, 6, 0}, {4, 1, 0}, {4, 5, 0}})},
		{rules("exists A j", "exists B z", "edge exists T z", "edge exists U z", "maxout T 0"), triples([][3]int{{0, 2, 0}, {0, 4, 0}, {0, 6, 0}, {1, 1, 0}, {2, 1, 0}, {2, 2, 0}, {2, 5, 0}, {3, 6, 0}, {4, 1, 0}, {4, 4, 0}})},
		{rules("kind A k bool", "kind A k int", "kind A k str"), triples([][3]int{{0, 1, 0}, {0, 2, 0}, {0, 4, 0}, {1, 4, 0}, {2, 1, 0}, {2, 2, 0}})},
		{rules("ends T * *", "ends T * B", "ends T B *", "ends U * *", "ends U B B", "maxout T 1", "maxout T 2", "maxout U 0"), triples([][3]int{{1, 1, 0}, {1, 2, 0}, {1, 5, 0}, {2, 5, 0}, {4, 6, 0}, {5, 1, 0}, {7, 2, 0}})},
	} {
		allIs(t, c.s, g, c.want)
	}
}

// P10.2: of two rules that are violated, the first in the schema decides, whatever their kinds are.
func TestFirstOfTwo(t *testing.T) {
	texts := broken()
	for a := range texts {
		for b := range texts {
			if schema.Order(rule(a), rule(b)) < 0 {
				allIs(t, rules(a, b), full(), append(found(0, texts[a]), found(1, texts[b])...))
				allIs(t, rules(b, a), full(), nil)
			}
		}
	}
}

// P10.2: all rules at once, and what is left as those at the front are dropped, one after the other.
func TestFirstOfMany(t *testing.T) {
	texts := broken()
	var s []api.Rule
	for text := range texts {
		s = append(s, rule(text))
	}
	// Rules that hold, of all kinds, stand between.
	s = sorted(append(s, rules("unique A a", "unique A z", "exists B j", "kind A a int", "kind A z int", "edge exists X a", "edge kind T a int", "edge kind X a int", "ends T * *", "maxout T 3", "maxout A 0")...))
	for len(s) > 0 {
		var want []api.Violation
		for i, r := range s {
			want = append(want, found(i, texts[schema.Text(r)])...)
		}
		allIs(t, s, full(), want)
		s = s[1:]
	}
}

// P10.2: as many rules as a schema can have, and one more.
func TestAllOfLongSchemas(t *testing.T) {
	g := graphOf([]api.Node{node(1, "A"), node(2, "")}, append(loops(5), edge(20, 2, 1, "T"))...)
	var s []api.Rule
	var want []api.Violation
	for n := range 41 {
		s = append(s, api.Rule{Kind: api.RMaxOut, Name: "T", N: n})
		if n < 5 {
			want = append(want, api.Violation{Rule: n, A: 1})
		}
		if n == 0 {
			want = append(want, api.Violation{Rule: n, A: 2})
		}
	}
	allIs(t, s[:39], g, want)
	allIs(t, s[:40], g, want)
	allIs(t, s[:41], g, nil)
	// The last of forty rules is the only one that is violated.
	allIs(t, slices.Concat(s[1:40], rules("maxout U 0")), graphOf([]api.Node{node(1, "A")}, edge(1, 1, 1, "U")), []api.Violation{{Rule: 39, A: 1}})
}

// P10.2: lists of rules that are no schemas, for what stands first, in the middle or last in them, have no violations.
func TestAllOfInvalidSchemas(t *testing.T) {
	g := full()
	s := rules("unique A k", "exists A k", "edge exists T k", "maxout T 1")
	want := triples([][3]int{{0, 1, 2}, {1, 6, 0}, {2, 1, 0}, {3, 1, 0}})
	allIs(t, s, g, want)
	for i := range s {
		twice := slices.Insert(slices.Clone(s), i, s[i])
		allIs(t, twice, g, nil)
		for j := range i {
			turned := slices.Clone(s)
			turned[i], turned[j] = turned[j], turned[i]
			allIs(t, turned, g, nil)
		}
		for _, spoil := range []func(r *api.Rule){
			func(r *api.Rule) { r.Name = "9" },
			func(r *api.Rule) { r.From = "A" },
			func(r *api.Rule) { r.N = -1 },
			func(r *api.Rule) { r.Kind = 9 },
			func(r *api.Rule) { *r = api.Rule{} },
		} {
			spoiled := slices.Clone(s)
			spoil(&spoiled[i])
			allIs(t, spoiled, g, nil)
		}
	}
}

// P10.2: graphs that are not valid have no violations, with a schema, with the empty one, and with what is no schema.
func TestAllOfInvalidGraphs(t *testing.T) {
	s := rules("unique A k", "exists A k", "edge exists T k", "ends T B *", "maxout T 1")
	for what, g := range invalid() {
		if graph.Check(g) == api.OK {
			t.Fatalf("%s: the graph is valid", what)
		}
		allIs(t, s, g, nil)
		allIs(t, nil, g, nil)
		allIs(t, []api.Rule{s[1], s[0]}, g, nil)
		allIs(t, []api.Rule{{}}, g, nil)
	}
}

// P10.2: First of as many violations as are possible, of a rule and of all rules of a schema.
func TestFirstOfLargeGraphs(t *testing.T) {
	g := api.Graph{Nodes: many(2000), NextNode: api.MaxId, NextEdge: 1}
	g.Edges, g.NextEdge = []api.Edge{edge(1, 10, 10, "T")}, 2
	if got := verify.First(rules("unique A k", "exists A z"), g); got != api.ErrUnique {
		t.Errorf("First = %d", got)
	}
	if got := verify.First(rules("unique A z", "exists A k", "maxout T 0"), g); got != api.ErrDegree {
		t.Errorf("First = %d", got)
	}
	if got := len(verify.All(rules("unique A k", "exists A z"), g)); got != 2000*1999/2+2000 {
		t.Errorf("All has %d violations", got)
	}
}

// P10.2: two calls return equal results, even if what the first one returned has been changed.
func TestCallsAreApart(t *testing.T) {
	s, g := rules("unique A k", "exists A j"), full()
	first := verify.All(s, g)
	want := slices.Clone(first)
	for i := range first {
		first[i] = api.Violation{Rule: 9}
	}
	if got := verify.All(s, g); !slices.Equal(got, want) {
		t.Errorf("All = %v, then %v", want, got)
	}
	pairs := verify.Of(s[0], g)
	pairs[0] = [2]int{9, 9}
	if got := verify.Of(s[0], g); !slices.Equal(got, [][2]int{{1, 2}}) {
		t.Errorf("Of = %v", got)
	}
}
