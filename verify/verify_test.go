package verify_test

import (
	"graphdb/api"
	"graphdb/graph"
	"graphdb/schema"
	"graphdb/verify"
	"reflect"
	"slices"
	"strings"
	"testing"
)

// rule returns the rule with that text.
func rule(text string) api.Rule {
	r, err := schema.Parse(text)
	if err != api.OK {
		panic("no rule: " + text)
	}
	return r
}

// rules returns the rules with these texts, in this order.
func rules(texts ...string) []api.Rule {
	var s []api.Rule
	for _, text := range texts {
		s = append(s, rule(text))
	}
	return s
}

// val returns the value of a boolean, an integer or a string, null of nil, and a value as it is.
func val(x any) api.Value {
	switch x := x.(type) {
	case bool:
		if x {
			return api.Value{Kind: api.VBool, N: 1}
		}
		return api.Value{Kind: api.VBool}
	case int:
		return api.Value{Kind: api.VInt, N: x}
	case string:
		return api.Value{Kind: api.VStr, S: x}
	case api.Value:
		return x
	}
	return api.Value{}
}

// prop returns a property.
func prop(key string, x any) api.Prop {
	return api.Prop{Key: key, V: val(x)}
}

// node returns a node with the labels that blanks separate in labels, and the properties.
func node(id int, labels string, props ...api.Prop) api.Node {
	return api.Node{Id: id, Labels: strings.Fields(labels), Props: props}
}

// edge returns an edge.
func edge(id, from, to int, name string, props ...api.Prop) api.Edge {
	return api.Edge{Id: id, From: from, To: to, Type: name, Props: props}
}

// graphOf returns the graph with these nodes and edges.
func graphOf(nodes []api.Node, edges ...api.Edge) api.Graph {
	return api.Graph{Nodes: nodes, Edges: edges, NextNode: api.MaxId + 1, NextEdge: api.MaxId + 1}
}

// alone returns the pairs of nodes or edges that violate a rule each by itself.
func alone(ids ...int) [][2]int {
	var l [][2]int
	for _, id := range ids {
		l = append(l, [2]int{id, 0})
	}
	return l
}

// arguments are what the functions of verify get.
type arguments struct {
	s []api.Rule
	g api.Graph
	l []api.Change
}

// guarded returns a copy of l with one more element in the capacity behind its last one.
func guarded[T any](l []T) []T {
	var guard T
	if len(l) > 0 {
		guard = l[0]
	}
	return slices.Concat(l, []T{guard})[:len(l)]
}

// copied returns a copy of a that shares no slice with it. All slices of the copy are guarded.
func copied(a arguments) arguments {
	a.s, a.g.Nodes, a.g.Edges, a.l = guarded(a.s), guarded(a.g.Nodes), guarded(a.g.Edges), guarded(a.l)
	for i := range a.g.Nodes {
		n := &a.g.Nodes[i]
		n.Labels, n.Props = guarded(n.Labels), guarded(n.Props)
	}
	for i := range a.g.Edges {
		e := &a.g.Edges[i]
		e.Props = guarded(e.Props)
	}
	return a
}

// whole returns a with the capacity of its slices as their length, so that what stands behind their ends counts.
func whole(a arguments) arguments {
	a.s, a.l = a.s[:cap(a.s)], a.l[:cap(a.l)]
	a.g.Nodes, a.g.Edges = slices.Clone(a.g.Nodes[:cap(a.g.Nodes)]), slices.Clone(a.g.Edges[:cap(a.g.Edges)])
	for i := range a.g.Nodes {
		n := &a.g.Nodes[i]
		n.Labels, n.Props = n.Labels[:cap(n.Labels)], n.Props[:cap(n.Props)]
	}
	for i := range a.g.Edges {
		e := &a.g.Edges[i]
		e.Props = e.Props[:cap(e.Props)]
	}
	return a
}

// untouched calls call with copies of the arguments, and fails if the call changes them.
func untouched(t *testing.T, a arguments, call func(a arguments)) {
	t.Helper()
	given, kept := copied(a), copied(a)
	call(given)
	if !reflect.DeepEqual(whole(given), whole(kept)) {
		t.Errorf("%+v became %+v", whole(kept), whole(given))
	}
}

// faults holds the error of each kind of rules.
var faults = map[int]api.Errno{
	api.RUnique:     api.ErrUnique,
	api.RExists:     api.ErrExists,
	api.RKind:       api.ErrKind,
	api.REdgeExists: api.ErrExists,
	api.REdgeKind:   api.ErrKind,
	api.REnds:       api.ErrEnds,
	api.RMaxOut:     api.ErrDegree,
}

// ofIs fails if Of of r and g is not want, if the other functions do not agree for the schema that is r alone, or if an argument changes.
func ofIs(t *testing.T, r api.Rule, g api.Graph, want [][2]int) {
	t.Helper()
	untouched(t, arguments{s: []api.Rule{r}, g: g}, func(a arguments) {
		if got := verify.Of(a.s[0], a.g); !slices.Equal(got, want) {
			t.Errorf("Of(%+v, %+v) = %v, want %v", r, g, got, want)
		}
	})
	var all []api.Violation
	for _, p := range want {
		all = append(all, api.Violation{A: p[0], B: p[1]})
	}
	allIs(t, []api.Rule{r}, g, all)
}

// allIs fails if All of s and g is not want, if First or After without changes does not agree, or if an argument changes.
func allIs(t *testing.T, s []api.Rule, g api.Graph, want []api.Violation) {
	t.Helper()
	fault := api.OK
	if len(want) > 0 {
		fault = faults[s[want[0].Rule].Kind]
	}
	untouched(t, arguments{s: s, g: g}, func(a arguments) {
		if got := verify.All(a.s, a.g); !slices.Equal(got, want) {
			t.Errorf("All(%+v, %+v) = %v, want %v", s, g, got, want)
		}
	})
	untouched(t, arguments{s: s, g: g}, func(a arguments) {
		if got := verify.First(a.s, a.g); got != fault {
			t.Errorf("First(%+v, %+v) = %d, want %d", s, g, got, fault)
		}
	})
	afterIs(t, s, g, nil, want, graph.Check(g))
}

// afterIs fails if After of s, g and l is not want and err, or if an argument changes.
func afterIs(t *testing.T, s []api.Rule, g api.Graph, l []api.Change, want []api.Violation, err api.Errno) {
	t.Helper()
	untouched(t, arguments{s, g, l}, func(a arguments) {
		if got, e := verify.After(a.s, a.g, a.l); !slices.Equal(got, want) || e != err {
			t.Errorf("After(%+v, %+v, %+v) = %v, %d, want %v, %d", s, g, l, got, e, want, err)
		}
	})
}
