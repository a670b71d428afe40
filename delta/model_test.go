package delta_test

import (
	"fmt"
	"graphdb/api"
	"graphdb/change"
	"graphdb/graph"
	"math/rand"
	"slices"
	"strings"
	"testing"
)

// labels, types and keys are the names in pseudorandom graphs, in increasing order. maxNode and maxEdge are the greatest ids in them.
var (
	labels = []string{"A", "B", "T"}
	types  = []string{"A", "T"}
	keys   = []string{"A", "k", "k1", "n"}
)

const (
	maxNode = 12
	maxEdge = 14
)

// nodeOf returns the node of g with that id and true, or one without labels and properties and false.
func nodeOf(g api.Graph, id int) (api.Node, bool) {
	for _, n := range g.Nodes {
		if n.Id == id {
			return n, true
		}
	}
	return api.Node{}, false
}

// edgeOf returns the edge of g with that id and true, or one without properties and false.
func edgeOf(g api.Graph, id int) (api.Edge, bool) {
	for _, e := range g.Edges {
		if e.Id == id {
			return e, true
		}
	}
	return api.Edge{}, false
}

// shown returns the text of the property with that key, or null if l has none.
func shown(l []api.Prop, key string) string {
	for _, p := range l {
		switch {
		case p.Key != key:
		case p.V.Kind == api.VBool:
			return fmt.Sprint(p.V.N == 1)
		case p.V.Kind == api.VInt:
			return fmt.Sprint(p.V.N)
		default:
			return "'" + p.V.S + "'"
		}
	}
	return "null"
}

// isReplaced reports whether both graphs have an edge with that id, with different ends or types.
func isReplaced(a, b api.Graph, id int) bool {
	e, inA := edgeOf(a, id)
	f, inB := edgeOf(b, id)
	return inA && inB && (e.From != f.From || e.To != f.To || e.Type != f.Type)
}

// propTexts returns what the script says of the properties of the element with that id, by word: those to remove, and those to set.
func propTexts(word string, id int, before, after []api.Prop) (gone, come []string) {
	for _, key := range keys {
		old, now := shown(before, key), shown(after, key)
		if old == now {
			continue
		}
		text := fmt.Sprintf("%s %d %s %s", word, id, key, now)
		if now == "null" {
			gone = append(gone, text)
		} else {
			come = append(come, text)
		}
	}
	return gone, come
}

// nodeTexts returns what the script says of the node of b with that id.
func nodeTexts(a, b api.Graph, id int) []string {
	n, _ := nodeOf(a, id)
	m, ok := nodeOf(b, id)
	if !ok {
		return nil
	}
	var off, on []string
	for _, s := range labels {
		before, after := slices.Contains(n.Labels, s), slices.Contains(m.Labels, s)
		if before && !after {
			off = append(off, fmt.Sprintf("-label %d %s", id, s))
		}
		if after && !before {
			on = append(on, fmt.Sprintf("+label %d %s", id, s))
		}
	}
	gone, come := propTexts("set", id, n.Props, m.Props)
	return slices.Concat(off, gone, on, come)
}

// edgeTexts returns what the script says of the properties of the edge of b with that id.
func edgeTexts(a, b api.Graph, id int) []string {
	e, _ := edgeOf(a, id)
	f, ok := edgeOf(b, id)
	if !ok {
		return nil
	}
	if isReplaced(a, b, id) {
		e.Props = nil
	}
	gone, come := propTexts("eset", id, e.Props, f.Props)
	return slices.Concat(gone, come)
}

// script returns the texts of what Of is defined to return for two valid graphs.
func script(a, b api.Graph) string {
	var groups [6][]string
	for id := 1; id <= maxEdge; id++ {
		_, inA := edgeOf(a, id)
		f, inB := edgeOf(b, id)
		if inA && !inB || isReplaced(a, b, id) {
			groups[0] = append(groups[0], fmt.Sprintf("-edge %d", id))
		}
		if inB && !inA || isReplaced(a, b, id) {
			groups[4] = append(groups[4], fmt.Sprintf("+edge %d %d %d %s", id, f.From, f.To, f.Type))
		}
		groups[5] = append(groups[5], edgeTexts(a, b, id)...)
	}
	for id := 1; id <= maxNode; id++ {
		_, inA := nodeOf(a, id)
		_, inB := nodeOf(b, id)
		if inA && !inB {
			groups[1] = append(groups[1], fmt.Sprintf("-node %d", id))
		}
		if inB && !inA {
			groups[2] = append(groups[2], fmt.Sprintf("+node %d", id))
		}
		groups[3] = append(groups[3], nodeTexts(a, b, id)...)
	}
	return strings.Join(slices.Concat(groups[:]...), ", ")
}

// touched returns what Touched is defined to return.
func touched(l []api.Change) (nodes, edges []int) {
	for id := 1; id <= max(maxNode, maxEdge); id++ {
		isNode, isEdge := false, false
		for _, c := range l {
			isNode = isNode || api.AddNode <= c.Op && c.Op <= api.SetNode && c.Id == id || c.Op == api.AddEdge && (c.From == id || c.To == id)
			isEdge = isEdge || api.AddEdge <= c.Op && c.Op <= api.SetEdge && c.Id == id
		}
		if isNode {
			nodes = append(nodes, id)
		}
		if isEdge {
			edges = append(edges, id)
		}
	}
	return nodes, edges
}

// pick returns a pseudorandom element of l.
func pick[T any](source *rand.Rand, l ...T) T {
	return l[source.Intn(len(l))]
}

// some returns pseudorandom elements of l, in their order, each of them with that chance in a hundred.
func some[T any](source *rand.Rand, chance int, l []T) []T {
	var out []T
	for _, x := range l {
		if source.Intn(100) < chance {
			out = append(out, x)
		}
	}
	return out
}

// someValue returns a pseudorandom value of a few that can be properties.
func someValue(source *rand.Rand) api.Value {
	return val(pick[any](source, true, false, 0, 1, 1, "", "1", "true", hollow(1)))
}

// someProps returns pseudorandom properties.
func someProps(source *rand.Rand) []api.Prop {
	var l []api.Prop
	for _, key := range some(source, 50, keys) {
		l = append(l, prop(key, someValue(source)))
	}
	return l
}

// upTo returns the integers from 1 to n.
func upTo(n int) []int {
	var l []int
	for id := range n {
		l = append(l, id+1)
	}
	return l
}

// someGraph returns a small pseudorandom valid graph, whose ids have gaps.
func someGraph(source *rand.Rand) api.Graph {
	g := api.Graph{NextNode: maxNode + 1 + source.Intn(9), NextEdge: maxEdge + 1 + source.Intn(9)}
	for _, id := range some(source, pick(source, 0, 20, 50, 90), upTo(maxNode)) {
		g.Nodes = append(g.Nodes, node(id, strings.Join(some(source, 60, labels), " "), someProps(source)...))
	}
	for _, id := range some(source, pick(source, 20, 50, 90), upTo(maxEdge)) {
		if len(g.Nodes) > 0 {
			g.Edges = append(g.Edges, edge(id, pick(source, g.Nodes...).Id, pick(source, g.Nodes...).Id, pick(source, types...), someProps(source)...))
		}
	}
	return g
}

// someChange returns a pseudorandom change, which can often be made in a pseudorandom graph.
func someChange(source *rand.Rand) api.Change {
	id, other := 1+source.Intn(maxNode), 1+source.Intn(maxEdge)
	switch source.Intn(8) {
	case 0:
		return api.Change{Op: api.AddNode, Id: id}
	case 1:
		return api.Change{Op: api.DelNode, Id: id}
	case 2:
		return api.Change{Op: api.AddLabel, Id: id, Name: pick(source, labels...)}
	case 3:
		return api.Change{Op: api.DelLabel, Id: id, Name: pick(source, labels...)}
	case 4:
		return api.Change{Op: api.SetNode, Id: id, Name: pick(source, keys...), V: pick(source, someValue(source), val(nil))}
	case 5:
		return api.Change{Op: api.AddEdge, Id: other, From: id, To: 1 + source.Intn(maxNode), Name: pick(source, types...)}
	case 6:
		return api.Change{Op: api.DelEdge, Id: other}
	}
	return api.Change{Op: api.SetEdge, Id: other, Name: pick(source, keys...), V: pick(source, someValue(source), val(nil))}
}

// someChanges returns up to n pseudorandom changes. All of them can be made in g, one after the other, unless one more that can't is asked for.
func someChanges(source *rand.Rand, g api.Graph, n int, wrong bool) []api.Change {
	var l []api.Change
	at := source.Intn(n + 1)
	for i := range source.Intn(n + 1) {
		c := someChange(source)
		h, err := change.Apply(g, c)
		switch {
		case err == api.OK:
			g, l = h, append(l, c)
		case wrong && i >= at:
			l, wrong = append(l, c), false
		}
	}
	return l
}

// P11.1, P11.2: Of pseudorandom graphs, by the definition: of two that have little in common, and of one and what a few changes leave of it.
func TestOfByTheDefinition(t *testing.T) {
	source := rand.New(rand.NewSource(111))
	counts := map[string]int{}
	empty, replaced := 0, 0
	for range 1500 {
		a, b := someGraph(source), someGraph(source)
		if source.Intn(2) == 0 {
			b, _, _ = change.ApplyAll(a, someChanges(source, a, 8, false))
			b.NextNode, b.NextEdge = maxNode+1, maxEdge+1
		}
		if graph.Check(a) != api.OK || graph.Check(b) != api.OK {
			t.Fatalf("%s or %s is not valid", brief(a), brief(b))
		}
		want := script(a, b)
		ofIs(t, a, b, want)
		if want == "" {
			empty++
		}
		for _, text := range strings.Split(want, ", ") {
			counts[strings.Split(text, " ")[0]]++
		}
		for _, id := range upTo(maxEdge) {
			if isReplaced(a, b, id) {
				replaced++
			}
		}
	}
	for _, word := range []string{"+node", "-node", "+label", "-label", "set", "+edge", "-edge", "eset"} {
		if counts[word] < 1000 {
			t.Errorf("only %d changes %s", counts[word], word)
		}
	}
	if empty < 50 || replaced < 500 {
		t.Errorf("only %d scripts without changes, and %d edges that are replaced", empty, replaced)
	}
}

// P11.1: Norm and Join of pseudorandom lists of changes, with what change.ApplyAll returns, by the definition.
func TestNormByTheDefinition(t *testing.T) {
	source := rand.New(rand.NewSource(112))
	done, failed := 0, 0
	for range 3000 {
		g := someGraph(source)
		l := someChanges(source, g, 20, source.Intn(2) == 0)
		want := ""
		h, _, err := change.ApplyAll(g, l)
		if err == api.OK {
			want = script(g, h)
			done++
		} else {
			failed++
		}
		normIs(t, g, l, want, err)
		cut := source.Intn(len(l) + 1)
		joinIs(t, g, l[:cut], l[cut:], want, err)
	}
	if done < 1000 || failed < 500 {
		t.Errorf("%d lists could be made, %d failed", done, failed)
	}
}

// P11.1: Touched of pseudorandom lists of changes, by the definition.
func TestTouchedByTheDefinition(t *testing.T) {
	source := rand.New(rand.NewSource(113))
	for range 3000 {
		var l []api.Change
		for range source.Intn(12) {
			c := someChange(source)
			if source.Intn(8) == 0 {
				c.Op = pick(source, 0, 9, -1, 12)
			}
			l = append(l, c)
		}
		nodes, edges := touched(l)
		touchedIs(t, l, nodes, edges)
	}
}
