package column_test

import (
	"encoding/binary"
	"graphdb/api"
	"graphdb/codec"
	"graphdb/graph"
	"math/big"
	"math/rand"
	"regexp"
	"slices"
)

// names matches the names.
var names = regexp.MustCompile(`^[a-zA-Z][a-zA-Z0-9_]{0,19}$`)

// isValid reports whether c is valid, by the list of the chapter.
func isValid(c api.Column) bool {
	for _, id := range slices.Concat(c.Nodes, c.To, c.Edge) {
		if id < 1 || id > 1000000 {
			return false
		}
	}
	if len(c.First) == 0 {
		return len(c.Nodes)+len(c.To)+len(c.Edge) == 0
	}
	if len(c.First) != len(c.Nodes)+1 || c.First[0] != 0 || c.First[len(c.Nodes)] != len(c.To) || len(c.To) != len(c.Edge) {
		return false
	}
	for i := range c.Nodes {
		if c.First[i] >= c.First[i+1] || i > 0 && c.Nodes[i-1] >= c.Nodes[i] {
			return false
		}
	}
	row := map[int]int{}
	for i := range c.Nodes {
		for k := c.First[i]; k < c.First[i+1]; k++ {
			row[k] = i
		}
	}
	for k := range c.To {
		for m := range k {
			// Entry m stands before entry k.
			if c.Edge[m] == c.Edge[k] || row[m] == row[k] && (c.To[m] > c.To[k] || c.To[m] == c.To[k] && c.Edge[m] > c.Edge[k]) {
				return false
			}
		}
	}
	return true
}

// entriesOf returns the entries of a valid column.
func entriesOf(c api.Column) []api.Adj {
	var l []api.Adj
	i := 0
	for k := range c.To {
		if k == c.First[i+1] {
			i++
		}
		l = append(l, api.Adj{From: c.Nodes[i], To: c.To[k], Edge: c.Edge[k]})
	}
	return l
}

// before reports whether entry a stands before entry b in a column.
func before(a, b api.Adj) bool {
	if a.From != b.From {
		return a.From < b.From
	}
	if a.To != b.To {
		return a.To < b.To
	}
	return a.Edge < b.Edge
}

// columnOf returns what Of is defined to return.
func columnOf(l []api.Adj) (api.Column, api.Errno) {
	edges := map[int]bool{}
	for _, a := range l {
		for _, id := range []int{a.From, a.To, a.Edge} {
			if id < 1 || id > 1000000 {
				return api.Column{}, api.ErrArg
			}
		}
		edges[a.Edge] = true
	}
	if len(edges) < len(l) {
		return api.Column{}, api.ErrTwice
	}
	return ordered(l), api.OK
}

// ordered returns the column with the entries of l. What stands where follows from how many entries are less.
func ordered(l []api.Adj) api.Column {
	if len(l) == 0 {
		return api.Column{}
	}
	c := api.Column{To: make([]int, len(l)), Edge: make([]int, len(l))}
	for _, a := range l {
		at := 0
		for _, b := range l {
			if before(b, a) {
				at++
			}
		}
		c.To[at], c.Edge[at] = a.To, a.Edge
		c.Nodes = append(c.Nodes, a.From)
	}
	slices.Sort(c.Nodes)
	c.Nodes = slices.Compact(c.Nodes)
	for _, id := range append(slices.Clone(c.Nodes), 1000001) {
		less := 0
		for _, a := range l {
			if a.From < id {
				less++
			}
		}
		c.First = append(c.First, less)
	}
	return c
}

// built returns what Build is defined to return.
func built(g api.Graph, typ string, dir int) (api.Column, api.Errno) {
	if err := graph.Check(g); err != api.OK {
		return api.Column{}, err
	}
	if dir != 1 && dir != 2 {
		return api.Column{}, api.ErrArg
	}
	var types []string
	if typ != "" {
		if !names.MatchString(typ) {
			return api.Column{}, api.ErrName
		}
		types = append(types, typ)
	}
	c := api.Column{First: []int{0}}
	for _, n := range g.Nodes {
		steps := graph.Steps(g, n.Id, types, dir)
		if len(steps) == 0 {
			continue
		}
		c.Nodes = append(c.Nodes, n.Id)
		for _, a := range steps {
			c.To = append(c.To, a.To)
			c.Edge = append(c.Edge, a.Edge)
		}
		c.First = append(c.First, len(c.To))
	}
	if len(c.Nodes) == 0 {
		c.First = nil
	}
	return c, api.OK
}

// encoded returns what Encode is defined to return for a valid column.
func encoded(c api.Column) []byte {
	b := binary.AppendUvarint(nil, uint64(len(c.Nodes)))
	for i, id := range c.Nodes {
		previous := 0
		if i > 0 {
			previous = c.Nodes[i-1]
		}
		b = binary.AppendUvarint(b, uint64(id-previous))
		b = binary.AppendUvarint(b, uint64(c.First[i+1]-c.First[i]))
		for k := c.First[i]; k < c.First[i+1]; k++ {
			to, edge := id, 0
			if k > c.First[i] {
				to = c.To[k-1]
			}
			if k > 0 {
				edge = c.Edge[k-1]
			}
			b = binary.AppendVarint(b, int64(c.To[k]-to))
			b = binary.AppendVarint(b, int64(c.Edge[k]-edge))
		}
	}
	return b
}

// decoded returns what Decode is defined to return.
func decoded(b []byte) (c api.Column, err api.Errno) {
	defer func() {
		if e, ok := recover().(api.Errno); ok {
			c, err = api.Column{}, e
		}
	}()
	at := 0
	number := func(read func([]byte, int) (int, int, api.Errno)) int {
		n, end, e := read(b, at)
		if e != api.OK {
			panic(e)
		}
		at = end
		return n
	}
	id := func(previous, difference int) int {
		sum := new(big.Int).Add(big.NewInt(int64(previous)), big.NewInt(int64(difference)))
		if sum.Sign() < 1 || sum.Cmp(big.NewInt(1000000)) > 0 {
			panic(api.ErrArg)
		}
		return int(sum.Int64())
	}
	c.First = []int{0}
	node, edge := 0, 0
	for n := number(codec.Uint); n > 0; n-- {
		node = id(node, number(codec.Uint))
		c.Nodes = append(c.Nodes, node)
		m := number(codec.Uint)
		if m == 0 {
			panic(api.ErrArg)
		}
		to := node
		for ; m > 0; m-- {
			to = id(to, number(codec.Int))
			edge = id(edge, number(codec.Int))
			c.To, c.Edge = append(c.To, to), append(c.Edge, edge)
		}
		c.First = append(c.First, len(c.To))
	}
	switch {
	case !isValid(c):
		panic(api.ErrArg)
	case at < len(b):
		panic(api.ErrSyntax)
	case len(c.Nodes) == 0:
		c.First = nil
	}
	return c, api.OK
}

// someEntries returns up to that many pseudorandom entries with different edges, in any order. Ends are often equal.
func someEntries(source *rand.Rand, most int) []api.Adj {
	ends := []int{1, 2, 3, 4, 63, 64, 65, 8191, 8192, 999999, 1000000}
	edges := source.Perm(50)
	var l []api.Adj
	for i := range source.Intn(most + 1) {
		a := api.Adj{From: ends[source.Intn(len(ends))], To: ends[source.Intn(len(ends))], Edge: edges[i] + 1}
		if source.Intn(4) == 0 {
			a.Edge = 1000000 - edges[i]
		}
		l = append(l, a)
	}
	return l
}

// someColumn returns a valid pseudorandom column.
func someColumn(source *rand.Rand) api.Column {
	return ordered(someEntries(source, 14))
}

// someGraph returns a valid pseudorandom graph with few nodes, among which there are loops and parallel edges.
func someGraph(source *rand.Rand) api.Graph {
	g := api.Graph{NextNode: 1, NextEdge: 1}
	for range source.Intn(7) {
		id := g.NextNode + source.Intn(3)
		g.Nodes = append(g.Nodes, api.Node{Id: id, Labels: []string{"T"}})
		g.NextNode = id + 1
	}
	if len(g.Nodes) == 0 {
		return g
	}
	end := func() int { return g.Nodes[source.Intn(len(g.Nodes))].Id }
	for range source.Intn(16) {
		id := g.NextEdge + source.Intn(3)
		e := api.Edge{Id: id, From: end(), To: end(), Type: []string{"T", "U", "t", "Tt"}[source.Intn(4)]}
		if source.Intn(3) == 0 {
			e.Props = []api.Prop{{Key: "k", V: api.Value{Kind: api.VInt, N: id}}}
		}
		g.Edges = append(g.Edges, e)
		g.NextEdge = id + 1
	}
	return g
}
