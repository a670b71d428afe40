package verify_test

import (
	"graphdb/api"
	"graphdb/change"
	"graphdb/graph"
	"graphdb/schema"
	"graphdb/verify"
	"math/rand"
	"slices"
	"testing"
)

// sameOf fails if Of the rule differs in g and h.
func sameOf(t *testing.T, r api.Rule, g, h api.Graph) {
	t.Helper()
	if graph.Check(g) != api.OK || graph.Check(h) != api.OK {
		t.Fatalf("%+v or %+v is not valid", g, h)
	}
	if a, b := verify.Of(r, g), verify.Of(r, h); !slices.Equal(a, b) {
		t.Fatalf("Of(%+v, ..) = %v in %+v, but %v in %+v", r, a, g, b, h)
	}
}

// isOfNodes reports whether r asks something of nodes alone.
func isOfNodes(r api.Rule) bool {
	return r.Kind == api.RUnique || r.Kind == api.RExists || r.Kind == api.RKind
}

// core returns g without all that the violations of r do not depend on: nodes without its label, or edges of other types and nodes where none of its type begins or ends.
func core(r api.Rule, g api.Graph) api.Graph {
	g = copied(arguments{g: g}).g
	used := map[int]bool{}
	g.Edges = slices.DeleteFunc(g.Edges, func(e api.Edge) bool { return isOfNodes(r) || e.Type != r.Name })
	for _, e := range g.Edges {
		used[e.From], used[e.To] = true, true
	}
	g.Nodes = slices.DeleteFunc(g.Nodes, func(n api.Node) bool {
		if isOfNodes(r) {
			return !slices.Contains(n.Labels, r.Name)
		}
		return !used[n.Id]
	})
	return g
}

// P10.4: nodes without labels and properties, before, between and behind the others, change nothing.
func TestBareNodesChangeNothing(t *testing.T) {
	source := rand.New(rand.NewSource(40))
	for range 200 {
		g := someGraph(source)
		for id := 1; id <= 12; id++ {
			h, err := change.Apply(g, addNode(id))
			if err == api.ErrTwice {
				continue
			}
			for _, r := range some(source, 20, pool) {
				sameOf(t, r, g, h)
			}
		}
	}
	// In a graph that violates rules of all kinds.
	for text, want := range broken() {
		for _, id := range []int{3, 5, 7, 1000000} {
			h, _ := change.Apply(full(), addNode(id))
			ofIs(t, rule(text), h, want)
		}
	}
}

// P10.4: without the nodes that lack the label, or without the edges of other types and the nodes where none of the type begins or ends, a rule has the same violations.
func TestOfDependsOnItsNameOnly(t *testing.T) {
	source := rand.New(rand.NewSource(41))
	for range 300 {
		g := someGraph(source)
		for _, r := range some(source, 50, pool) {
			sameOf(t, r, g, core(r, g))
		}
	}
}

// P10.4: other labels, properties and next ids than those that a rule names change nothing.
func TestOfIgnoresAllElse(t *testing.T) {
	source := rand.New(rand.NewSource(42))
	for range 300 {
		g := someGraph(source)
		for _, r := range some(source, 50, pool) {
			h := copied(arguments{g: g}).g
			h.NextNode, h.NextEdge = 11+source.Intn(1000), 15+source.Intn(1000)
			for i := range h.Nodes {
				n := &h.Nodes[i]
				n.Labels = slices.DeleteFunc(n.Labels, func(s string) bool { return !slices.Contains([]string{r.Name, r.From, r.To}, s) })
				n.Props = slices.DeleteFunc(n.Props, func(p api.Prop) bool { return p.Key != r.Key })
			}
			for i := range h.Edges {
				e := &h.Edges[i]
				e.Props = slices.DeleteFunc(e.Props, func(p api.Prop) bool { return p.Key != r.Key })
			}
			sameOf(t, r, g, h)
		}
	}
}

// P10.4: the violations of RUnique are an equivalence: whichever two of the three pairs of three nodes are violations, the third one is, too.
func TestUniqueIsEquivalence(t *testing.T) {
	source := rand.New(rand.NewSource(43))
	shared := 0
	for range 2000 {
		g := someGraph(source)
		for _, label := range labels {
			for _, key := range keys {
				l := verify.Of(rule("unique "+label+" "+key), g)
				has := func(a, b int) bool { return slices.Contains(l, [2]int{min(a, b), max(a, b)}) }
				for _, p := range l {
					for _, n := range g.Nodes {
						c := n.Id
						if c == p[0] || c == p[1] {
							continue
						}
						if has(p[0], c) != has(p[1], c) {
							t.Fatalf("%v are the violations of unique %s %s in %+v", l, label, key, g)
						}
						if has(p[0], c) {
							shared++
						}
					}
				}
			}
		}
	}
	if shared < 1000 {
		t.Errorf("only %d nodes were equal to both of a pair", shared)
	}
}

// without returns l without the violations of the rule at that index, as they are where that rule is gone.
func without(l []api.Violation, index int) []api.Violation {
	var out []api.Violation
	for _, v := range l {
		switch {
		case v.Rule < index:
			out = append(out, v)
		case v.Rule > index:
			out = append(out, api.Violation{Rule: v.Rule - 1, A: v.A, B: v.B})
		}
	}
	return out
}

// P10.4: a rule that is dropped from a schema takes its violations with it, and no others.
func TestDroppedRules(t *testing.T) {
	source := rand.New(rand.NewSource(44))
	for range 300 {
		s, g := someSchema(source), someGraph(source)
		for i, r := range s {
			rest, err := schema.Drop(s, r)
			if err != api.OK {
				t.Fatalf("Drop(%+v, %+v): %d", s, r, err)
			}
			if got, want := verify.All(rest, g), without(verify.All(s, g), i); !slices.Equal(got, want) {
				t.Fatalf("All(%+v, %+v) = %v, want %v", rest, g, got, want)
			}
		}
	}
}
