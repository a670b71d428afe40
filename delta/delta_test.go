package delta_test

import (
	"fmt"
	"graphdb/api"
	"graphdb/change"
	"graphdb/delta"
	"graphdb/graph"
	"reflect"
	"slices"
	"strconv"
	"strings"
	"testing"
)

// val returns the value of a boolean, an integer or a string, null of nil, and a value as it is.
func val(x any) api.Value {
	switch x := x.(type) {
	case bool:
		if x {
			return api.Value{Kind: api.VBool, N: 1}
		}
		return api.Value{Kind: api.VBool}
	case int:
		return api.Value{Kind: api.VInt, N: x}
	case string:
		return api.Value{Kind: api.VStr, S: x}
	case api.Value:
		return x
	}
	return api.Value{}
}

// hollow returns v with an empty list that is not nil, which is the same value.
func hollow(x any) api.Value {
	v := val(x)
	v.L = []api.Value{}
	return v
}

// prop returns a property.
func prop(key string, x any) api.Prop {
	return api.Prop{Key: key, V: val(x)}
}

// node returns a node with the labels that blanks separate in labels, and the properties.
func node(id int, labels string, props ...api.Prop) api.Node {
	return api.Node{Id: id, Labels: strings.Fields(labels), Props: props}
}

// edge returns an edge.
func edge(id, from, to int, name string, props ...api.Prop) api.Edge {
	return api.Edge{Id: id, From: from, To: to, Type: name, Props: props}
}

// graphOf returns the graph with these nodes and edges, whose next ids are the least that are possible.
func graphOf(nodes []api.Node, edges ...api.Edge) api.Graph {
	g := api.Graph{Nodes: nodes, Edges: edges, NextNode: 1, NextEdge: 1}
	for _, n := range nodes {
		g.NextNode = max(g.NextNode, n.Id+1)
	}
	for _, e := range edges {
		g.NextEdge = max(g.NextEdge, e.Id+1)
	}
	return g
}

// nodes returns the nodes l.
func nodes(l ...api.Node) []api.Node {
	return l
}

// numbers returns the integers that blanks separate in text.
func numbers(text string) []int {
	var l []int
	for _, word := range strings.Fields(text) {
		n, err := strconv.Atoi(word)
		if err != nil {
			panic(err)
		}
		l = append(l, n)
	}
	return l
}

// literal returns the value with that text, which has no quotes in it except those around a string.
func literal(text string) api.Value {
	switch {
	case text == "null":
		return val(nil)
	case text == "true" || text == "false":
		return val(text == "true")
	case text[0] == '\'':
		return val(strings.Trim(text, "'"))
	}
	return val(numbers(text)[0])
}

// changes returns the changes with the texts that commas separate in text.
func changes(text string) []api.Change {
	ops := map[string]int{"+node": api.AddNode, "-node": api.DelNode, "+label": api.AddLabel, "-label": api.DelLabel, "set": api.SetNode, "+edge": api.AddEdge, "-edge": api.DelEdge, "eset": api.SetEdge}
	var l []api.Change
	for _, part := range strings.Split(text, ",") {
		words := strings.Fields(part)
		if len(words) == 0 {
			continue
		}
		c := api.Change{Op: ops[words[0]], Id: numbers(words[1])[0]}
		switch c.Op {
		case api.AddLabel, api.DelLabel:
			c.Name = words[2]
		case api.SetNode, api.SetEdge:
			c.Name, c.V = words[2], literal(words[3])
		case api.AddEdge:
			c.From, c.To, c.Name = numbers(words[2])[0], numbers(words[3])[0], words[4]
		}
		l = append(l, c)
	}
	return l
}

// written returns the texts of l, separated by commas. A change that is not valid is written with all its fields.
func written(l []api.Change) string {
	var all []string
	for _, c := range l {
		text := change.Text(c)
		if text == "" {
			text = fmt.Sprintf("%+v", c)
		}
		all = append(all, text)
	}
	return strings.Join(all, ", ")
}

// brief returns a text for a graph, a short one if much is in it.
func brief(g api.Graph) string {
	if len(g.Nodes)+len(g.Edges) > 40 {
		return fmt.Sprintf("{%d nodes, %d edges, %d, %d}", len(g.Nodes), len(g.Edges), g.NextNode, g.NextEdge)
	}
	return fmt.Sprintf("%+v", g)
}

// arguments are what the functions of delta get.
type arguments struct {
	a, b api.Graph
	l, m []api.Change
}

// guarded returns a copy of l with one more element in the capacity behind its last one.
func guarded[T any](l []T) []T {
	var guard T
	if len(l) > 0 {
		guard = l[0]
	}
	return slices.Concat(l, []T{guard})[:len(l)]
}

// copied returns a copy of g that shares no slice with it. All slices of the copy are guarded.
func copied(g api.Graph) api.Graph {
	props := func(l []api.Prop) []api.Prop {
		l = guarded(l)
		for i := range l {
			l[i].V.L = guarded(l[i].V.L)
		}
		return l
	}
	g.Nodes, g.Edges = guarded(g.Nodes), guarded(g.Edges)
	for i := range g.Nodes {
		n := &g.Nodes[i]
		n.Labels, n.Props = guarded(n.Labels), props(n.Props)
	}
	for i := range g.Edges {
		e := &g.Edges[i]
		e.Props = props(e.Props)
	}
	return g
}

// whole returns a copy of l that has all of the capacity of l as its length.
func whole[T any](l []T) []T {
	return slices.Clone(l[:cap(l)])
}

// wholeGraph returns g with the capacity of its slices as their length, so that what stands behind their ends counts.
func wholeGraph(g api.Graph) api.Graph {
	g.Nodes, g.Edges = whole(g.Nodes), whole(g.Edges)
	for i := range g.Nodes {
		n := &g.Nodes[i]
		n.Labels, n.Props = whole(n.Labels), whole(n.Props)
	}
	for i := range g.Edges {
		e := &g.Edges[i]
		e.Props = whole(e.Props)
	}
	return g
}

// untouched calls call with a copy of the arguments, and fails if the call changes anything in it or behind it.
func untouched(t *testing.T, x arguments, call func(x arguments)) {
	t.Helper()
	// Two copies made in the same way are equal as long as nothing changes one of them.
	given := arguments{copied(x.a), copied(x.b), guarded(x.l), guarded(x.m)}
	kept := arguments{copied(x.a), copied(x.b), guarded(x.l), guarded(x.m)}
	call(given)
	given = arguments{wholeGraph(given.a), wholeGraph(given.b), whole(given.l), whole(given.m)}
	kept = arguments{wholeGraph(kept.a), wholeGraph(kept.b), whole(kept.l), whole(kept.m)}
	if !reflect.DeepEqual(given, kept) {
		t.Errorf("%s, %s, %+v, %+v became %s, %s, %+v, %+v", brief(kept.a), brief(kept.b), kept.l, kept.m, brief(given.a), brief(given.b), given.l, given.m)
	}
}

// alikeIs fails if Alike of a and b, in either order, is not want, or if an argument changes.
func alikeIs(t *testing.T, a, b api.Graph, want bool) {
	t.Helper()
	for range 2 {
		untouched(t, arguments{a: a, b: b}, func(x arguments) {
			if got := delta.Alike(x.a, x.b); got != want {
				t.Errorf("Alike(%s, %s) = %v", brief(a), brief(b), got)
			}
		})
		a, b = b, a
	}
}

// scriptIs fails if l and e, what a call returned, are not the changes that want writes and err.
func scriptIs(t *testing.T, call string, l []api.Change, e api.Errno, want string, err api.Errno) {
	t.Helper()
	if e != err || written(l) != want {
		t.Errorf("%s = %q, %d, want %q, %d", call, written(l), e, want, err)
	}
	for _, c := range l {
		if r := change.Check(c); r != api.OK {
			t.Errorf("%s has the change %+v, which Check rejects with %d", call, c, r)
		}
	}
}

// ofIs fails if Of of a and b is not the changes that want writes and OK, if they do not lead from a to b, or if an argument changes.
func ofIs(t *testing.T, a, b api.Graph, want string) {
	t.Helper()
	untouched(t, arguments{a: a, b: b}, func(x arguments) {
		l, e := delta.Of(x.a, x.b)
		scriptIs(t, fmt.Sprintf("Of(%s, %s)", brief(a), brief(b)), l, e, want, api.OK)
		leadsTo(t, a, b, l)
	})
	if delta.Alike(a, b) != (want == "") {
		t.Errorf("Alike(%s, %s) = %v, but the script is %q", brief(a), brief(b), want != "", want)
	}
}

// leadsTo fails if the changes of l can't be made in a, or do not lead to a valid graph that is alike b.
func leadsTo(t *testing.T, a, b api.Graph, l []api.Change) {
	t.Helper()
	h, n, err := change.ApplyAll(a, l)
	if err != api.OK {
		t.Errorf("ApplyAll(%s, %s): %d at %d", brief(a), written(l), err, n)
		return
	}
	want := b
	want.NextNode, want.NextEdge = h.NextNode, h.NextEdge
	if r := graph.Check(h); r != api.OK || !graph.Same(h, want) || !delta.Alike(h, b) {
		t.Errorf("%s lead from %s to %s, want %s", written(l), brief(a), brief(h), brief(b))
	}
}

// ofFails fails if Of of a and b does not return err without changes, or if an argument changes.
func ofFails(t *testing.T, a, b api.Graph, err api.Errno) {
	t.Helper()
	untouched(t, arguments{a: a, b: b}, func(x arguments) {
		l, e := delta.Of(x.a, x.b)
		scriptIs(t, fmt.Sprintf("Of(%s, %s)", brief(a), brief(b)), l, e, "", err)
	})
}

// normIs fails if Norm of g and l is not the changes that want writes and err, or if an argument changes.
func normIs(t *testing.T, g api.Graph, l []api.Change, want string, err api.Errno) {
	t.Helper()
	untouched(t, arguments{a: g, l: l}, func(x arguments) {
		got, e := delta.Norm(x.a, x.l)
		scriptIs(t, fmt.Sprintf("Norm(%s, %s)", brief(g), written(l)), got, e, want, err)
	})
}

// joinIs fails if Join of g, l and m is not the changes that want writes and err, or if an argument changes.
func joinIs(t *testing.T, g api.Graph, l, m []api.Change, want string, err api.Errno) {
	t.Helper()
	untouched(t, arguments{a: g, l: l, m: m}, func(x arguments) {
		got, e := delta.Join(x.a, x.l, x.m)
		scriptIs(t, fmt.Sprintf("Join(%s, %s, %s)", brief(g), written(l), written(m)), got, e, want, err)
	})
}

// touchedIs fails if Touched of l is not the nodes and the edges with these ids, or if l changes.
func touchedIs(t *testing.T, l []api.Change, nodes, edges []int) {
	t.Helper()
	untouched(t, arguments{l: l}, func(x arguments) {
		n, e := delta.Touched(x.l)
		if !slices.Equal(n, nodes) || !slices.Equal(e, edges) {
			t.Errorf("Touched(%s) = %v, %v, want %v, %v", written(l), n, e, nodes, edges)
		}
	})
}

// sample returns a valid graph with gaps between the ids, parallel edges, edges in both directions, a loop, and nodes without edges (2 and 20).
func sample() api.Graph {
	g := graphOf(nodes(
		node(1, "A B", prop("a", 1), prop("b", true), prop("c", "x")),
		node(2, "B"),
		node(10, ""),
		node(11, "A", prop("a", 1)),
		node(20, "C", prop("z", "")),
	),
		edge(3, 1, 10, "T", prop("a", 1), prop("w", "x")),
		edge(4, 1, 10, "T"),
		edge(12, 10, 1, "U", prop("w", false)),
		edge(30, 11, 11, "T"),
	)
	g.NextNode, g.NextEdge = 40, 50
	return g
}

// sampleWith returns the sample as edit leaves it.
func sampleWith(edit func(g *api.Graph)) api.Graph {
	g := sample()
	edit(&g)
	return g
}
