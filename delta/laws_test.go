package delta_test

import (
	"graphdb/api"
	"graphdb/change"
	"graphdb/delta"
	"graphdb/graph"
	"math/rand"
	"slices"
	"testing"
)

// made returns g as the changes of l leave it.
func made(t *testing.T, g api.Graph, l []api.Change) api.Graph {
	t.Helper()
	h, n, err := change.ApplyAll(g, l)
	if err != api.OK {
		t.Fatalf("ApplyAll(%s, %s): %d at %d", brief(g), written(l), err, n)
	}
	return h
}

// normal returns Norm of g and l, which can be made in g.
func normal(t *testing.T, g api.Graph, l []api.Change) []api.Change {
	t.Helper()
	n, err := delta.Norm(g, l)
	if err != api.OK {
		t.Fatalf("Norm(%s, %s): %d", brief(g), written(l), err)
	}
	return n
}

// identical reports whether l and m are the same changes.
func identical(l, m []api.Change) bool {
	return slices.EqualFunc(l, m, change.Same)
}

// P11.2: the script from a to b, and none if they are alike; and so for three graphs in turn.
func TestScriptsLeadOn(t *testing.T) {
	source := rand.New(rand.NewSource(121))
	for range 500 {
		a, b, c := someGraph(source), someGraph(source), someGraph(source)
		first, err := delta.Of(a, b)
		if err != api.OK {
			t.Fatalf("Of(%s, %s): %d", brief(a), brief(b), err)
		}
		leadsTo(t, a, b, first)
		second, _ := delta.Of(b, c)
		leadsTo(t, b, c, second)
		// Both together are as good as the script from a to c, which Join finds.
		direct, _ := delta.Of(a, c)
		if joined, err := delta.Join(a, first, second); err != api.OK || !identical(joined, direct) {
			t.Errorf("Join(%s, %s, %s) = %s, %d, want %s", brief(a), written(first), written(second), written(joined), err, written(direct))
		}
		for _, g := range []api.Graph{a, b, c} {
			for _, h := range []api.Graph{a, b, c} {
				if l, err := delta.Of(g, h); err != api.OK || (len(l) == 0) != delta.Alike(g, h) {
					t.Errorf("Of(%s, %s) = %s, %d, but Alike is %v", brief(g), brief(h), written(l), err, delta.Alike(g, h))
				}
			}
		}
	}
}

// P11.2: a single change that alters something makes two graphs that are not alike, and is itself the script between them.
func TestEachChangeCounts(t *testing.T) {
	source := rand.New(rand.NewSource(122))
	counts, void := map[int]int{}, 0
	for range 6000 {
		g, c := someGraph(source), someChange(source)
		h, err := change.Apply(g, c)
		if err != api.OK {
			continue
		}
		l, err := delta.Of(g, h)
		if err != api.OK {
			t.Fatalf("Of(%s, %s): %d", brief(g), brief(h), err)
		}
		leadsTo(t, g, h, l)
		h.NextNode, h.NextEdge = g.NextNode, g.NextEdge
		same := graph.Same(g, h)
		if delta.Alike(g, h) != same || (len(l) == 0) != same {
			t.Errorf("%+v in %s: Alike is %v, the script %s", c, brief(g), delta.Alike(g, h), written(l))
		}
		if !same && !identical(l, []api.Change{c}) {
			t.Errorf("Of(g, g with %+v) = %s", c, written(l))
		}
		counts[c.Op]++
		if same {
			void++
		}
	}
	for op := api.AddNode; op <= api.SetEdge; op++ {
		if counts[op] < 50 {
			t.Errorf("only %d changes with Op %d", counts[op], op)
		}
	}
	if void < 50 {
		t.Errorf("only %d changes that alter nothing", void)
	}
}

// P11.3: Norm of l has the effect of l, and is its own Norm. Join has the effect of one list after the other, and each of them can be replaced by its Norm.
func TestNormKeepsTheEffect(t *testing.T) {
	source := rand.New(rand.NewSource(123))
	shorter := 0
	for range 1500 {
		g := someGraph(source)
		l := someChanges(source, g, 20, false)
		h := made(t, g, l)
		m := someChanges(source, h, 20, false)
		n := normal(t, g, l)
		if !delta.Alike(made(t, g, n), h) {
			t.Errorf("%s in %s have another effect than %s", written(n), brief(g), written(l))
		}
		if again := normal(t, g, n); !identical(again, n) {
			t.Errorf("Norm of %s in %s is %s", written(n), brief(g), written(again))
		}
		if len(n) < len(l) {
			shorter++
		}
		for _, first := range [][]api.Change{l, n} {
			for _, second := range [][]api.Change{m, normal(t, h, m)} {
				joined, err := delta.Join(g, first, second)
				if err != api.OK || !delta.Alike(made(t, g, joined), made(t, h, m)) {
					t.Errorf("Join(%s, %s, %s) = %s, %d", brief(g), written(first), written(second), written(joined), err)
				}
				if !identical(joined, normal(t, g, slices.Concat(l, m))) {
					t.Errorf("Join(%s, %s, %s) is not Norm of both: %s", brief(g), written(first), written(second), written(joined))
				}
			}
		}
	}
	if shorter < 200 {
		t.Errorf("only %d lists became shorter", shorter)
	}
}

// P11.3: changes followed by those that undo them are equal to none.
func TestNormOfInverses(t *testing.T) {
	source := rand.New(rand.NewSource(124))
	for range 1000 {
		g := someGraph(source)
		l := someChanges(source, g, 15, false)
		back, _, err := change.Invert(g, l)
		if err != api.OK {
			t.Fatalf("Invert(%s, %s): %d", brief(g), written(l), err)
		}
		joinIs(t, g, l, back, "", api.OK)
		normIs(t, g, slices.Concat(l, back), "", api.OK)
	}
}

// stay fails if a node or an edge that the changes from g to h do not touch is not the same in both.
func stay(t *testing.T, g, h api.Graph, l []api.Change) int {
	t.Helper()
	touched, edges := delta.Touched(l)
	count := 0
	for id := range max(maxNode, maxEdge) + 2 {
		n, inG := nodeOf(g, id)
		m, inH := nodeOf(h, id)
		if !slices.Contains(touched, id) {
			count++
			if inG != inH || !graph.Same(api.Graph{Nodes: []api.Node{n}}, api.Graph{Nodes: []api.Node{m}}) {
				t.Errorf("%s do not touch the node %d, but %s becomes %s", written(l), id, brief(g), brief(h))
			}
		}
		e, inG := edgeOf(g, id)
		f, inH := edgeOf(h, id)
		if !slices.Contains(edges, id) {
			count++
			if inG != inH || !graph.Same(api.Graph{Edges: []api.Edge{e}}, api.Graph{Edges: []api.Edge{f}}) {
				t.Errorf("%s do not touch the edge %d, but %s becomes %s", written(l), id, brief(g), brief(h))
			}
		}
	}
	return count
}

// P11.4: what the changes do not touch stays, by a list, by its Norm, by what undoes it, and by the script between two graphs. The Norm touches nothing that the list does not.
func TestTheUntouchedStay(t *testing.T) {
	source := rand.New(rand.NewSource(125))
	count := 0
	for range 1500 {
		g := someGraph(source)
		l := someChanges(source, g, 12, false)
		h := made(t, g, l)
		n := normal(t, g, l)
		back, _, _ := change.Invert(g, l)
		count += stay(t, g, h, l) + stay(t, g, h, n) + stay(t, h, g, back)
		inNorm, edgesInNorm := delta.Touched(n)
		inList, edgesInList := delta.Touched(l)
		for _, id := range inNorm {
			if !slices.Contains(inList, id) {
				t.Errorf("%s touch the node %d, %s do not", written(n), id, written(l))
			}
		}
		for _, id := range edgesInNorm {
			if !slices.Contains(edgesInList, id) {
				t.Errorf("%s touch the edge %d, %s do not", written(n), id, written(l))
			}
		}
		k := someGraph(source)
		script, _ := delta.Of(g, k)
		stay(t, g, k, script)
	}
	if count < 10000 {
		t.Errorf("only %d elements were not touched", count)
	}
}
