package overlay_test

import (
	"graphdb/api"
	"graphdb/column"
	"math/rand"
	"slices"
	"testing"
)

// before reports whether entry a is less than entry b.
func before(a, b api.Adj) bool {
	if a.From != b.From {
		return a.From < b.From
	}
	if a.To != b.To {
		return a.To < b.To
	}
	return a.Edge < b.Edge
}

// sorted returns the entries of l, of which no two are equal, in order. How many are less than an entry says where it stands.
func sorted(l []api.Adj) []api.Adj {
	r := make([]api.Adj, len(l))
	for _, a := range l {
		at := 0
		for _, b := range l {
			if before(b, a) {
				at++
			}
		}
		r[at] = a
	}
	return r
}

// ordered returns the column with the entries of l, which are in order.
func ordered(l []api.Adj) api.Column {
	var c api.Column
	for i, a := range l {
		if !slices.Contains(c.Nodes, a.From) {
			c.Nodes, c.First = append(c.Nodes, a.From), append(c.First, i)
		}
		c.To, c.Edge = append(c.To, a.To), append(c.Edge, a.Edge)
	}
	if len(l) > 0 {
		c.First = append(c.First, len(l))
	}
	return c
}

// members returns the entries of o in no order.
func members(o api.Overlay) []api.Adj {
	var l []api.Adj
	for _, a := range column.Entries(o.Base) {
		if !slices.Contains(o.Dels, a.Edge) {
			l = append(l, a)
		}
	}
	return append(l, o.Adds...)
}

// isValid reports whether o is valid, by P13.1.
func isValid(o api.Overlay) bool {
	if !column.Valid(o.Base) {
		return false
	}
	for i, a := range o.Adds {
		for _, id := range []int{a.From, a.To, a.Edge} {
			if id < 1 || id > 1000000 {
				return false
			}
		}
		if i > 0 && !before(o.Adds[i-1], a) {
			return false
		}
	}
	for i, edge := range o.Dels {
		if !slices.Contains(o.Base.Edge, edge) || i > 0 && o.Dels[i-1] >= edge {
			return false
		}
	}
	edges := map[int]bool{}
	for _, a := range members(o) {
		edges[a.Edge] = true
	}
	return len(edges) == len(members(o))
}

// inserted returns what Insert is defined to return.
func inserted(o api.Overlay, a api.Adj) (api.Overlay, api.Errno) {
	if !isValid(o) {
		return api.Overlay{}, api.ErrState
	}
	for _, id := range []int{a.From, a.To, a.Edge} {
		if id < 1 || id > 1000000 {
			return api.Overlay{}, api.ErrArg
		}
	}
	for _, b := range members(o) {
		if a.Edge == b.Edge {
			return api.Overlay{}, api.ErrTwice
		}
	}
	if slices.Contains(column.Entries(o.Base), a) && slices.Contains(o.Dels, a.Edge) {
		return api.Overlay{Base: o.Base, Adds: o.Adds, Dels: without(o.Dels, a.Edge)}, api.OK
	}
	return api.Overlay{Base: o.Base, Adds: sorted(append(slices.Clone(o.Adds), a)), Dels: o.Dels}, api.OK
}

// deleted returns what Delete is defined to return.
func deleted(o api.Overlay, edge int) (api.Overlay, api.Errno) {
	if !isValid(o) {
		return api.Overlay{}, api.ErrState
	}
	for _, a := range members(o) {
		if a.Edge != edge {
			continue
		}
		if slices.Contains(o.Adds, a) {
			return api.Overlay{Base: o.Base, Adds: without(o.Adds, a), Dels: o.Dels}, api.OK
		}
		dels := append(slices.Clone(o.Dels), edge)
		slices.Sort(dels)
		return api.Overlay{Base: o.Base, Adds: o.Adds, Dels: dels}, api.OK
	}
	return api.Overlay{}, api.ErrEdge
}

// without returns the elements of l that are not x.
func without[T comparable](l []T, x T) []T {
	var r []T
	for _, y := range l {
		if y != x {
			r = append(r, y)
		}
	}
	return r
}

// asDefined fails if Valid, Entries, Row or Compact of o is not what its definition says.
func asDefined(t *testing.T, o api.Overlay) {
	t.Helper()
	if isValid(o) {
		readsAs(t, o, sorted(members(o)))
	} else {
		isRejected(t, "by the definition", o)
	}
}

// insertsAsDefined fails if Insert of a into o is not what its definition says.
func insertsAsDefined(t *testing.T, o api.Overlay, a api.Adj) {
	t.Helper()
	want, err := inserted(o, a)
	insertIs(t, o, a, want, err)
}

// deletesAsDefined fails if Delete of edge from o is not what its definition says.
func deletesAsDefined(t *testing.T, o api.Overlay, edge int) {
	t.Helper()
	want, err := deleted(o, edge)
	deleteIs(t, o, edge, want, err)
}

// ends holds the nodes of pseudorandom entries: few, so that they are often equal.
var ends = []int{1, 2, 3, 4, 7, 999999, 1000000}

// someAdj returns a pseudorandom entry with that edge.
func someAdj(source *rand.Rand, edge int) api.Adj {
	return api.Adj{From: ends[source.Intn(len(ends))], To: ends[source.Intn(len(ends))], Edge: edge}
}

// someEdge returns a pseudorandom edge.
func someEdge(source *rand.Rand) int {
	if source.Intn(4) == 0 {
		return 1000000 - source.Intn(10)
	}
	return source.Intn(30) + 1
}

// someColumn returns a valid pseudorandom column.
func someColumn(source *rand.Rand) api.Column {
	var l []api.Adj
	used := map[int]bool{}
	for range source.Intn(12) {
		if edge := someEdge(source); !used[edge] {
			used[edge] = true
			l = append(l, someAdj(source, edge))
		}
	}
	c := ordered(sorted(l))
	if len(l) == 0 && source.Intn(2) == 0 {
		c.First = []int{0}
	}
	return c
}

// someOverlay returns a valid pseudorandom overlay. Deleted edges may be back, between other nodes or the same ones.
func someOverlay(source *rand.Rand) api.Overlay {
	o := api.Overlay{Base: someColumn(source)}
	used := map[int]bool{}
	var adds []api.Adj
	for _, a := range column.Entries(o.Base) {
		used[a.Edge] = true
		switch source.Intn(8) {
		case 0, 1:
			o.Dels = append(o.Dels, a.Edge)
		case 2:
			o.Dels = append(o.Dels, a.Edge)
			adds = append(adds, someAdj(source, a.Edge))
		case 3:
			o.Dels = append(o.Dels, a.Edge)
			adds = append(adds, a)
		}
	}
	for range source.Intn(6) {
		if edge := someEdge(source); !used[edge] {
			used[edge] = true
			adds = append(adds, someAdj(source, edge))
		}
	}
	slices.Sort(o.Dels)
	o.Adds = sorted(adds)
	return o
}

// disturbed returns a copy of o with one element of one of its lists replaced, exchanged, removed or added.
func disturbed(source *rand.Rand, o api.Overlay) api.Overlay {
	o = guard(o)
	switch source.Intn(7) {
	case 0:
		lists := []*[]int{&o.Base.Nodes, &o.Base.First, &o.Base.To, &o.Base.Edge}
		l := lists[source.Intn(4)]
		*l = changed(source, *l, someNumber(source, o))
	case 1, 2:
		o.Dels = changed(source, o.Dels, someNumber(source, o))
	case 3, 4:
		o.Adds = changed(source, o.Adds, someAdj(source, someNumber(source, o)))
	default:
		if len(o.Adds) > 0 {
			a := &o.Adds[source.Intn(len(o.Adds))]
			*[]*int{&a.From, &a.To, &a.Edge}[source.Intn(3)] = someNumber(source, o)
		}
	}
	return o
}

// someNumber returns an integer that is no id, an edge of o or a pseudorandom one.
func someNumber(source *rand.Rand, o api.Overlay) int {
	switch source.Intn(4) {
	case 0:
		return noIds[source.Intn(len(noIds))]
	case 1:
		if len(o.Adds) > 0 {
			return o.Adds[source.Intn(len(o.Adds))].Edge
		}
	case 2:
		if len(o.Base.Edge) > 0 {
			return o.Base.Edge[source.Intn(len(o.Base.Edge))]
		}
	}
	return someEdge(source)
}

// changed returns l with one element replaced by x, exchanged, removed or added.
func changed[T any](source *rand.Rand, l []T, x T) []T {
	at := source.Intn(len(l) + 1)
	if at == len(l) {
		return append(l, x)
	}
	switch source.Intn(4) {
	case 0:
		l[at] = x
	case 1:
		l[at], l[0] = l[0], l[at]
	case 2:
		return slices.Delete(l, at, at+1)
	case 3:
		return slices.Insert(l, at, x)
	}
	return l
}
