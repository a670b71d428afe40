package change_test

import (
	"cmp"
	"graphdb/api"
	"graphdb/change"
	"graphdb/graph"
	"math/rand"
	"slices"
	"strings"
	"testing"
)

// refusal returns the error that Apply is defined to return for a valid graph g, by the table of P8.2.
func refusal(g api.Graph, c api.Change) api.Errno {
	if err := checked(c); err != api.OK {
		return err
	}
	nodes, edges, ends := map[int]api.Node{}, map[int]api.Edge{}, map[int]bool{}
	for _, n := range g.Nodes {
		nodes[n.Id] = n
	}
	for _, e := range g.Edges {
		edges[e.Id], ends[e.From], ends[e.To] = e, true, true
	}
	n, isNode := nodes[c.Id]
	e, isEdge := edges[c.Id]
	_, isFrom := nodes[c.From]
	_, isTo := nodes[c.To]
	labeled := slices.Contains(n.Labels, c.Name)
	isFull := func(l []api.Prop) bool {
		return !isNull(c.V) && len(l) == 16 && !slices.ContainsFunc(l, func(p api.Prop) bool { return p.Key == c.Name })
	}
	type condition struct {
		holds bool
		err   api.Errno
	}
	table := map[int][]condition{
		api.AddNode:  {{isNode, api.ErrTwice}, {len(nodes) == 2000, api.ErrFull}},
		api.DelNode:  {{!isNode, api.ErrNode}, {ends[c.Id], api.ErrUsed}},
		api.AddLabel: {{!isNode, api.ErrNode}, {labeled, api.ErrTwice}, {len(n.Labels) == 8, api.ErrFull}},
		api.DelLabel: {{!isNode, api.ErrNode}, {!labeled, api.ErrNone}},
		api.SetNode:  {{!isNode, api.ErrNode}, {isFull(n.Props), api.ErrFull}},
		api.AddEdge:  {{isEdge, api.ErrTwice}, {!isFrom || !isTo, api.ErrNode}, {len(edges) == 4000, api.ErrFull}},
		api.DelEdge:  {{!isEdge, api.ErrEdge}},
		api.SetEdge:  {{!isEdge, api.ErrEdge}, {isFull(e.Props), api.ErrFull}},
	}
	for _, row := range table[c.Op] {
		if row.holds {
			return row.err
		}
	}
	return api.OK
}

// withProp returns l with the value v of the property key, or without that property if v is null.
func withProp(l []api.Prop, key string, v api.Value) []api.Prop {
	var out []api.Prop
	for _, p := range l {
		if p.Key != key {
			out = append(out, p)
		}
	}
	if !isNull(v) {
		out = append(out, prop(key, v))
	}
	slices.SortFunc(out, func(p, q api.Prop) int { return strings.Compare(p.Key, q.Key) })
	return out
}

// effect returns what a change that can be made in g makes of it, by the table of P8.2.
func effect(g api.Graph, c api.Change) api.Graph {
	g = copied(g)
	switch c.Op {
	case api.AddNode:
		g.Nodes, g.NextNode = append(g.Nodes, api.Node{Id: c.Id}), max(g.NextNode, c.Id+1)
	case api.DelNode:
		g.Nodes = slices.DeleteFunc(g.Nodes, func(n api.Node) bool { return n.Id == c.Id })
	case api.AddEdge:
		g.Edges, g.NextEdge = append(g.Edges, api.Edge{Id: c.Id, From: c.From, To: c.To, Type: c.Name}), max(g.NextEdge, c.Id+1)
	case api.DelEdge:
		g.Edges = slices.DeleteFunc(g.Edges, func(e api.Edge) bool { return e.Id == c.Id })
	}
	for i := range g.Nodes {
		n := &g.Nodes[i]
		switch {
		case n.Id != c.Id:
		case c.Op == api.AddLabel:
			n.Labels = slices.Sorted(slices.Values(append(n.Labels, c.Name)))
		case c.Op == api.DelLabel:
			n.Labels = slices.DeleteFunc(n.Labels, func(s string) bool { return s == c.Name })
		case c.Op == api.SetNode:
			n.Props = withProp(n.Props, c.Name, c.V)
		}
	}
	for i := range g.Edges {
		if e := &g.Edges[i]; e.Id == c.Id && c.Op == api.SetEdge {
			e.Props = withProp(e.Props, c.Name, c.V)
		}
	}
	slices.SortFunc(g.Nodes, func(a, b api.Node) int { return cmp.Compare(a.Id, b.Id) })
	slices.SortFunc(g.Edges, func(a, b api.Edge) int { return cmp.Compare(a.Id, b.Id) })
	return g
}

// pool returns 18 names, more than a node or an edge can have properties.
func pool() []string {
	return append(namesFrom(16), "A", "z")
}

// pick returns a pseudorandom element of l.
func pick[T any](source *rand.Rand, l ...T) T {
	return l[source.Intn(len(l))]
}

// subset returns n pseudorandom names of the pool in increasing order.
func subset(source *rand.Rand, n int) []string {
	all := pool()
	source.Shuffle(len(all), func(i, j int) { all[i], all[j] = all[j], all[i] })
	return slices.Sorted(slices.Values(all[:n]))
}

// validGraph returns a small pseudorandom valid graph. Its nodes and edges often have as many labels and properties as they can have.
func validGraph(source *rand.Rand) api.Graph {
	props := func() []api.Prop {
		var l []api.Prop
		for _, key := range subset(source, pick(source, 0, 0, 1, 2, 15, 16)) {
			l = append(l, prop(key, pick(source, plain()...)))
		}
		return l
	}
	g := api.Graph{NextNode: 7, NextEdge: 7}
	for id := 1; id <= 6; id++ {
		if source.Intn(2) == 0 {
			g.Nodes = append(g.Nodes, api.Node{Id: id, Labels: subset(source, pick(source, 0, 0, 1, 2, 7, 8)), Props: props()})
		}
	}
	for id := 1; id <= 6 && len(g.Nodes) > 0; id++ {
		if source.Intn(3) == 0 {
			g.Edges = append(g.Edges, api.Edge{Id: id, From: pick(source, g.Nodes...).Id, To: pick(source, g.Nodes...).Id, Type: pick(source, "T", "U"), Props: props()})
		}
	}
	if source.Intn(4) == 0 {
		g.NextNode, g.NextEdge = pick(source, 7, 8, 1000000, 1000001), pick(source, 7, 8, 1000000, 1000001)
	}
	return g
}

// randomChange returns a pseudorandom change, which is seldom not valid.
func randomChange(source *rand.Rand) api.Change {
	id := func() int { return pick(source, 1, 2, 3, 4, 5, 6, 7, 8) }
	c := ordinary()[1+source.Intn(8)]
	c.Id = id()
	if c.Op == api.AddEdge {
		c.From, c.To = id(), id()
	}
	if c.Name != "" {
		c.Name = pick(source, pool()...)
	}
	if !isNull(c.V) {
		c.V = pick(source, append(plain(), null, null, hollow(null), null)...)
	}
	if source.Intn(12) > 0 {
		return c
	}
	switch source.Intn(6) {
	case 0:
		c.Op = pick(source, notOps...)
	case 1:
		c.Id = pick(source, pick(source, notIds...), pick(source, someIds...))
	case 2:
		c.From, c.To = pick(source, c.From, 0, 1, -1), pick(source, c.To, 0, 1, -1)
	case 3:
		c.Name = pick(source, pick(source, notNames...), pick(source, someNames...))
	case 4:
		c.V = pick(source, odd()...)
	case 5:
		c.V, c.Name = pick(source, odd()...), pick(source, notNames...)
	}
	return c
}

// P8.2, P8.5: pseudorandom changes of pseudorandom graphs, against the table as it stands.
func TestApplyByTheTable(t *testing.T) {
	source := rand.New(rand.NewSource(82))
	seen := map[[2]int]int{}
	for range 12000 {
		g, c := validGraph(source), randomChange(source)
		want, err := api.Graph{}, refusal(g, c)
		if err == api.OK {
			want = effect(g, c)
		}
		got, e := change.Apply(g, c)
		if e != err || !graph.Same(got, want) {
			t.Fatalf("Apply(%s, %+v) = %s, %d, want %s, %d", brief(g), c, brief(got), e, brief(want), err)
		}
		if r := graph.Check(got); err == api.OK && r != api.OK {
			t.Fatalf("Apply(%s, %+v) = %s, which Check rejects with %d", brief(g), c, brief(got), r)
		}
		seen[[2]int{c.Op, int(err)}]++
	}
	// The graphs are too small for two of the rows only.
	for _, x := range []struct {
		op   int
		errs []api.Errno
	}{
		{api.AddNode, []api.Errno{api.OK, api.ErrTwice}}, {api.DelNode, []api.Errno{api.OK, api.ErrNode, api.ErrUsed}}, {api.AddLabel, []api.Errno{api.OK, api.ErrNode, api.ErrTwice, api.ErrFull}}, {api.DelLabel, []api.Errno{api.OK, api.ErrNode, api.ErrNone}},
		{api.SetNode, []api.Errno{api.OK, api.ErrNode, api.ErrFull}}, {api.AddEdge, []api.Errno{api.OK, api.ErrTwice, api.ErrNode}}, {api.DelEdge, []api.Errno{api.OK, api.ErrEdge}}, {api.SetEdge, []api.Errno{api.OK, api.ErrEdge, api.ErrFull}},
	} {
		for _, err := range x.errs {
			if seen[[2]int{x.op, int(err)}] < 5 {
				t.Errorf("the test had too few changes with Op %d and error %d", x.op, err)
			}
		}
	}
}

// randomList returns a pseudorandom list of changes. Up to wrong of them can't be made in g.
func randomList(source *rand.Rand, g api.Graph, wrong int) []api.Change {
	var l []api.Change
	for range source.Intn(30) {
		c := randomChange(source)
		if refusal(g, c) == api.OK {
			g = effect(g, c)
		} else if wrong == 0 || source.Intn(8) > 0 {
			continue
		} else {
			wrong--
		}
		l = append(l, c)
	}
	return l
}

// inOrder returns what ApplyAll is defined to return for a valid graph g.
func inOrder(g api.Graph, l []api.Change) (api.Graph, int, api.Errno) {
	for i, c := range l {
		if err := refusal(g, c); err != api.OK {
			return api.Graph{}, i, err
		}
		g = effect(g, c)
	}
	return g, len(l), api.OK
}

// undone returns what the inverse of c, applied to g, is defined to be.
func undone(g api.Graph, c api.Change) []api.Change {
	var n api.Node
	for _, x := range g.Nodes {
		if x.Id == c.Id {
			n = x
		}
	}
	var e api.Edge
	for _, x := range g.Edges {
		if x.Id == c.Id {
			e = x
		}
	}
	valueOf := func(l []api.Prop) api.Value {
		for _, p := range l {
			if p.Key == c.Name {
				return p.V
			}
		}
		return null
	}
	var l []api.Change
	switch c.Op {
	case api.AddNode:
		l = append(l, delNode(c.Id))
	case api.DelNode:
		l = append(l, addNode(c.Id))
		for _, s := range n.Labels {
			l = append(l, addLabel(c.Id, s))
		}
		for _, p := range n.Props {
			l = append(l, setNode(c.Id, p.Key, p.V))
		}
	case api.AddLabel:
		l = append(l, delLabel(c.Id, c.Name))
	case api.DelLabel:
		l = append(l, addLabel(c.Id, c.Name))
	case api.SetNode:
		l = append(l, setNode(c.Id, c.Name, valueOf(n.Props)))
	case api.AddEdge:
		l = append(l, delEdge(c.Id))
	case api.DelEdge:
		l = append(l, addEdge(c.Id, e.From, e.To, e.Type))
		for _, p := range e.Props {
			l = append(l, setEdge(c.Id, p.Key, p.V))
		}
	case api.SetEdge:
		l = append(l, setEdge(c.Id, c.Name, valueOf(e.Props)))
	}
	return l
}

// backwards returns what Invert is defined to return for a valid graph g and changes that can be made in it.
func backwards(g api.Graph, l []api.Change) []api.Change {
	var all []api.Change
	for _, c := range l {
		all = append(undone(g, c), all...)
		g = effect(g, c)
	}
	return all
}

// P8.3, P8.4, P8.5: pseudorandom lists of changes of pseudorandom graphs, most without and many with changes that can't be made.
func TestListsByTheDefinition(t *testing.T) {
	source := rand.New(rand.NewSource(83))
	failed, done := 0, 0
	for range 1200 {
		g := validGraph(source)
		l := randomList(source, g, source.Intn(3))
		want, at, err := inOrder(g, l)
		applyAllIs(t, g, l, want, at, err)
		if err != api.OK {
			invertIs(t, g, l, nil, at, err)
			failed++
			continue
		}
		invertIs(t, g, l, backwards(g, l), at, err)
		leadsBack(t, g, l)
		done += len(l)
	}
	if failed < 200 || done < 2000 {
		t.Errorf("the test had only %d lists that fail and %d changes that do not", failed, done)
	}
}
