package verify_test

import (
	"graphdb/api"
	"graphdb/change"
	"graphdb/graph"
	"graphdb/schema"
	"graphdb/verify"
	"math/rand"
	"slices"
	"strings"
	"testing"
)

// labels, types and keys are the names in pseudorandom graphs. Some are labels as well as types or keys. pool holds the rules for these graphs.
var (
	labels = []string{"A", "B", "T"}
	types  = []string{"A", "T", "U"}
	keys   = []string{"A", "k", "n"}
	pool   = allRules()
)

// valueOf returns the value of the property with that key and true, or false if l has none.
func valueOf(l []api.Prop, key string) (api.Value, bool) {
	for _, p := range l {
		if p.Key == key {
			return p.V, true
		}
	}
	return api.Value{}, false
}

// hasLabel reports whether g has a node with that id and label.
func hasLabel(g api.Graph, id int, label string) bool {
	for _, n := range g.Nodes {
		if n.Id == id && slices.Contains(n.Labels, label) {
			return true
		}
	}
	return false
}

// isNodePair reports whether (a, b) is one of the pairs of r, a rule of nodes, by the table of P10.1. The node b is nil in pairs of one node.
func isNodePair(r api.Rule, g api.Graph, a api.Node, b *api.Node) bool {
	v, has := valueOf(a.Props, r.Key)
	degree := 0
	for _, e := range g.Edges {
		if e.From == a.Id && e.Type == r.Name {
			degree++
		}
	}
	labeled := hasLabel(g, a.Id, r.Name)
	switch {
	case r.Kind == api.RUnique && b != nil:
		w, both := valueOf(b.Props, r.Key)
		return a.Id < b.Id && labeled && hasLabel(g, b.Id, r.Name) && has && both && v.Kind == w.Kind && v.N == w.N && v.S == w.S
	case r.Kind == api.RExists && b == nil:
		return labeled && !has
	case r.Kind == api.RKind && b == nil:
		return labeled && has && v.Kind != r.N
	case r.Kind == api.RMaxOut && b == nil:
		return degree > r.N
	}
	return false
}

// isEdgePair reports whether (e, 0) is one of the pairs of r, a rule of edges, by the table of P10.1.
func isEdgePair(r api.Rule, g api.Graph, e api.Edge) bool {
	v, has := valueOf(e.Props, r.Key)
	if e.Type != r.Name {
		return false
	}
	switch r.Kind {
	case api.REdgeExists:
		return !has
	case api.REdgeKind:
		return has && v.Kind != r.N
	case api.REnds:
		return r.From != "" && !hasLabel(g, e.From, r.From) || r.To != "" && !hasLabel(g, e.To, r.To)
	}
	return false
}

// pairsOf returns what Of is defined to return for a valid rule and a valid graph.
func pairsOf(r api.Rule, g api.Graph) [][2]int {
	var l [][2]int
	for _, a := range g.Nodes {
		if isNodePair(r, g, a, nil) {
			l = append(l, [2]int{a.Id, 0})
		}
		for _, b := range g.Nodes {
			if isNodePair(r, g, a, &b) {
				l = append(l, [2]int{a.Id, b.Id})
			}
		}
	}
	for _, e := range g.Edges {
		if isEdgePair(r, g, e) {
			l = append(l, [2]int{e.Id, 0})
		}
	}
	slices.SortFunc(l, func(p, q [2]int) int { return slices.Compare(p[:], q[:]) })
	return l
}

// violationsOf returns what All is defined to return for a schema and a valid graph.
func violationsOf(s []api.Rule, g api.Graph) []api.Violation {
	var l []api.Violation
	for i, r := range s {
		l = append(l, found(i, pairsOf(r, g))...)
	}
	return l
}

// allRules returns rules of all kinds with the names of pseudorandom graphs, and with names that none of them has.
func allRules() []api.Rule {
	var s []api.Rule
	for _, key := range append(keys, "z") {
		for _, name := range append(labels, "Z") {
			s = append(s, rules("unique "+name+" "+key, "exists "+name+" "+key, "kind "+name+" "+key+" bool", "kind "+name+" "+key+" int", "kind "+name+" "+key+" str")...)
		}
		for _, name := range append(types, "Z") {
			s = append(s, rules("edge exists "+name+" "+key, "edge kind "+name+" "+key+" bool", "edge kind "+name+" "+key+" int", "edge kind "+name+" "+key+" str")...)
		}
	}
	for _, name := range append(types, "Z") {
		for _, from := range append(labels, "Z", "*") {
			for _, to := range append(labels, "Z", "*") {
				s = append(s, rule("ends "+name+" "+from+" "+to))
			}
		}
		for _, n := range []string{"0", "1", "2", "3", "4", "4000"} {
			s = append(s, rule("maxout "+name+" "+n))
		}
	}
	return sorted(s)
}

// pick returns a pseudorandom element of l.
func pick[T any](source *rand.Rand, l ...T) T {
	return l[source.Intn(len(l))]
}

// some returns pseudorandom elements of l, in their order, each of them with that chance in a hundred.
func some[T any](source *rand.Rand, chance int, l []T) []T {
	var out []T
	for _, x := range l {
		if source.Intn(100) < chance {
			out = append(out, x)
		}
	}
	return out
}

// somePlain returns a pseudorandom value of a few that can be properties.
func somePlain(source *rand.Rand) api.Value {
	return val(pick[any](source, true, false, 0, 1, 1, "", "1", "true", "1"))
}

// someProps returns pseudorandom properties.
func someProps(source *rand.Rand) []api.Prop {
	var l []api.Prop
	for _, key := range some(source, 60, keys) {
		l = append(l, prop(key, somePlain(source)))
	}
	return l
}

// ids returns the integers from 1 to n.
func ids(n int) []int {
	var l []int
	for id := range n {
		l = append(l, id+1)
	}
	return l
}

// someGraph returns a small pseudorandom valid graph, whose ids have gaps.
func someGraph(source *rand.Rand) api.Graph {
	g := api.Graph{NextNode: 10, NextEdge: 14}
	for _, id := range some(source, pick(source, 20, 50, 90), ids(9)) {
		g.Nodes = append(g.Nodes, node(id, strings.Join(some(source, 60, labels), " "), someProps(source)...))
	}
	for _, id := range some(source, pick(source, 20, 50, 90), ids(13)) {
		if len(g.Nodes) > 0 {
			g.Edges = append(g.Edges, edge(id, pick(source, g.Nodes...).Id, pick(source, g.Nodes...).Id, pick(source, types...), someProps(source)...))
		}
	}
	return g
}

// someSchema returns a pseudorandom schema, seldom the empty one, with up to forty rules.
func someSchema(source *rand.Rand) []api.Rule {
	s := some(source, pick(source, 1, 3, 9), pool)
	return s[:min(len(s), 40)]
}

// someChange returns a pseudorandom change, which can often be made in a pseudorandom graph.
func someChange(source *rand.Rand) api.Change {
	id := 1 + source.Intn(9)
	switch source.Intn(8) {
	case 0:
		return addNode(id)
	case 1:
		return delNode(id)
	case 2:
		return addLabel(id, pick(source, labels...))
	case 3:
		return delLabel(id, pick(source, labels...))
	case 4:
		return setNode(id, pick(source, keys...), pick(source, somePlain(source), api.Value{}))
	case 5:
		return addEdge(1+source.Intn(13), id, 1+source.Intn(9), pick(source, types...))
	case 6:
		return delEdge(1 + source.Intn(13))
	}
	return setEdge(1+source.Intn(13), pick(source, keys...), pick(source, somePlain(source), api.Value{}))
}

// P10.1: Of every rule of the pool in pseudorandom graphs, by the definition.
func TestOfAgainstDefinition(t *testing.T) {
	source := rand.New(rand.NewSource(10))
	counts := map[int]int{}
	for range 400 {
		g := someGraph(source)
		if err := graph.Check(g); err != api.OK {
			t.Fatalf("%+v is not valid: %d", g, err)
		}
		for _, r := range pool {
			want := pairsOf(r, g)
			counts[r.Kind] += len(want)
			if got := verify.Of(r, g); !slices.Equal(got, want) {
				t.Fatalf("Of(%+v, %+v) = %v, want %v", r, g, got, want)
			}
		}
	}
	for kind := api.RUnique; kind <= api.RMaxOut; kind++ {
		if counts[kind] < 1000 {
			t.Errorf("only %d violations of rules of the kind %d", counts[kind], kind)
		}
	}
}

// P10.2: All and First of pseudorandom schemas in pseudorandom graphs, by the definition.
func TestAllAgainstDefinition(t *testing.T) {
	source := rand.New(rand.NewSource(20))
	for range 1500 {
		s, g := someSchema(source), someGraph(source)
		if !schema.Valid(s) {
			t.Fatalf("%+v is no schema", s)
		}
		allIs(t, s, g, violationsOf(s, g))
		if len(s) < 2 {
			continue
		}
		// The same rules in a wrong order, and one of them twice.
		at := 1 + source.Intn(len(s)-1)
		turned, twice := slices.Clone(s), slices.Clone(s)
		turned[at-1], turned[at] = turned[at], turned[at-1]
		twice[at] = twice[at-1]
		allIs(t, turned, g, nil)
		allIs(t, twice, g, nil)
	}
}

// P10.3: After of pseudorandom lists of changes, by the definition, with the graph that change.ApplyAll returns.
func TestAfterAgainstDefinition(t *testing.T) {
	source := rand.New(rand.NewSource(30))
	made, failed := 0, 0
	for range 4000 {
		s, g := someSchema(source), someGraph(source)
		var l []api.Change
		for range source.Intn(6) {
			l = append(l, someChange(source))
		}
		h, _, err := change.ApplyAll(g, l)
		if err != api.OK {
			failed++
			afterIs(t, s, g, l, nil, err)
			continue
		}
		made++
		afterIs(t, s, g, l, violationsOf(s, h), api.OK)
	}
	if made < 1000 || failed < 1000 {
		t.Errorf("%d lists could be made, %d failed", made, failed)
	}
}
