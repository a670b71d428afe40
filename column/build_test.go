package column_test

import (
	"graphdb/api"
	"graphdb/column"
	"graphdb/graph"
	"math"
	"math/rand"
	"slices"
	"strings"
	"testing"
)

// edge returns an edge.
func edge(id, from, to int, name string) api.Edge {
	return api.Edge{Id: id, From: from, To: to, Type: name}
}

// graphOf returns the graph with the nodes that blanks separate in nodes, and the edges, whose next ids are the least that are possible.
func graphOf(nodes string, edges ...api.Edge) api.Graph {
	g := api.Graph{Edges: edges, NextNode: 1, NextEdge: 1}
	for _, id := range numbers(nodes) {
		g.Nodes = append(g.Nodes, api.Node{Id: id})
		g.NextNode = id + 1
	}
	for _, e := range edges {
		g.NextEdge = e.Id + 1
	}
	return g
}

// sample returns a valid graph with gaps between the ids, parallel edges, edges in both directions, loops, and a node without edges (3).
func sample() api.Graph {
	g := graphOf("1 2 3 10",
		edge(2, 10, 1, "T"),
		edge(3, 1, 10, "U"),
		edge(4, 1, 10, "T"),
		edge(5, 2, 2, "T"),
		edge(7, 1, 2, "T"),
		edge(8, 1, 10, "T"),
		edge(9, 2, 1, "T"),
		edge(12, 2, 2, "U"),
		edge(13, 2, 2, "T"),
	)
	g.NextNode, g.NextEdge = 40, 50
	g.Nodes[0].Labels = []string{"A", "T"}
	g.Nodes[1].Props = []api.Prop{{Key: "k", V: api.Value{Kind: api.VInt, N: 1}}}
	g.Edges[1].Props = []api.Prop{{Key: "T", V: api.Value{Kind: api.VStr, S: "T"}}}
	return g
}

// sampleWith returns the sample as edit leaves it.
func sampleWith(edit func(g *api.Graph)) api.Graph {
	g := sample()
	edit(&g)
	return g
}

// P12.1: the chapter's examples.
func TestBuildExamples(t *testing.T) {
	g := graphOf("1 2", edge(7, 2, 1, "T"), edge(8, 2, 2, "T"))
	buildIs(t, g, "T", api.Out, col("2", "0 2", "1 2", "7 8"), api.OK)
	buildIs(t, g, "T", api.In, col("1 2", "0 1 2", "2 2", "7 8"), api.OK)
	buildIs(t, g, "", api.Out, col("2", "0 2", "1 2", "7 8"), api.OK)
	buildIs(t, g, "U", api.Out, api.Column{}, api.OK)
	buildIs(t, g, "U", api.In, api.Column{}, api.OK)
}

// P12.1: the sample in both directions by one type, by all types, and by types that no edge has.
func TestBuildSample(t *testing.T) {
	for _, c := range []struct {
		typ  string
		dir  int
		want api.Column
	}{
		{"T", api.Out, col("1 2 10", "0 3 6 7", "2 10 10 1 2 2 1", "7 4 8 9 5 13 2")},
		{"T", api.In, col("1 2 10", "0 2 5 7", "2 10 1 2 2 1 1", "9 2 7 5 13 4 8")},
		{"U", api.Out, col("1 2", "0 1 2", "10 2", "3 12")},
		{"U", api.In, col("2 10", "0 1 2", "2 1", "12 3")},
		{"", api.Out, col("1 2 10", "0 4 8 9", "2 10 10 10 1 2 2 2 1", "7 3 4 8 9 5 12 13 2")},
		{"", api.In, col("1 2 10", "0 2 6 9", "2 10 1 2 2 2 1 1 1", "9 2 7 5 12 13 3 4 8")},
	} {
		buildIs(t, sample(), c.typ, c.dir, c.want, api.OK)
	}
	// A label, a key, a type in another case, the beginning of a type, and more than a type.
	for _, typ := range []string{"A", "k", "t", "u", "V", "TU", "T1", strings.Repeat("T", 20)} {
		buildIs(t, sample(), typ, api.Out, api.Column{}, api.OK)
		buildIs(t, sample(), typ, api.In, api.Column{}, api.OK)
	}
}

// P12.1: graphs without edges, and with one.
func TestBuildSmallGraphs(t *testing.T) {
	for _, dir := range []int{api.Out, api.In} {
		for _, typ := range []string{"", "T"} {
			buildIs(t, graph.New(), typ, dir, api.Column{}, api.OK)
			buildIs(t, api.Graph{Nodes: []api.Node{}, Edges: []api.Edge{}, NextNode: 1, NextEdge: 1}, typ, dir, api.Column{}, api.OK)
			buildIs(t, graphOf("1 2 3"), typ, dir, api.Column{}, api.OK)
			buildIs(t, graphOf("5", edge(6, 5, 5, "T")), typ, dir, col("5", "0 1", "5", "6"), api.OK)
			buildIs(t, graphOf("5", edge(6, 5, 5, "T"), edge(7, 5, 5, "T")), typ, dir, col("5", "0 2", "5 5", "6 7"), api.OK)
		}
	}
	one := graphOf("3 4", edge(9, 4, 3, "T"))
	buildIs(t, one, "", api.Out, col("4", "0 1", "3", "9"), api.OK)
	buildIs(t, one, "", api.In, col("3", "0 1", "4", "9"), api.OK)
	// Edges from one node in both directions.
	two := graphOf("3 4", edge(8, 3, 4, "T"), edge(9, 4, 3, "U"))
	buildIs(t, two, "", api.Out, col("3 4", "0 1 2", "4 3", "8 9"), api.OK)
	buildIs(t, two, "", api.In, col("3 4", "0 1 2", "4 3", "9 8"), api.OK)
	buildIs(t, two, "T", api.In, col("4", "0 1", "3", "8"), api.OK)
	buildIs(t, two, "U", api.In, col("3", "0 1", "4", "9"), api.OK)
}

// P12.1: the least and the greatest ids, and the longest name as a type.
func TestBuildAtLimits(t *testing.T) {
	name := strings.Repeat("z", 20)
	g := graphOf("1 1000000", edge(1, 1000000, 1, name), edge(999999, 1, 1, "Z9_"), edge(1000000, 1000000, 1000000, name))
	buildIs(t, g, "", api.Out, col("1 1000000", "0 1 3", "1 1 1000000", "999999 1 1000000"), api.OK)
	buildIs(t, g, "", api.In, col("1 1000000", "0 2 3", "1 1000000 1000000", "999999 1 1000000"), api.OK)
	buildIs(t, g, name, api.Out, col("1000000", "0 2", "1 1000000", "1 1000000"), api.OK)
	buildIs(t, g, name, api.In, col("1 1000000", "0 1 2", "1000000 1000000", "1 1000000"), api.OK)
	buildIs(t, g, "Z9_", api.In, col("1", "0 1", "1", "999999"), api.OK)
	buildIs(t, g, "Z", api.Out, api.Column{}, api.OK)
}

// wrongDirs holds what is not a direction of a column: Both, integers beside the two directions, and some that would be one of them if bits were lost.
var wrongDirs = []int{api.Both, 0, -1, -2, 4, 5, 257, 1 << 32, 1<<32 + 1, 1<<32 + 2, math.MinInt, math.MinInt + 1, math.MaxInt}

// P12.1: directions that are neither Out nor In, whatever the type is.
func TestBuildWrongDirections(t *testing.T) {
	for _, dir := range wrongDirs {
		for _, typ := range []string{"", "T", "U", "V", "1T", "\xff"} {
			buildIs(t, sample(), typ, dir, api.Column{}, api.ErrArg)
			buildIs(t, graph.New(), typ, dir, api.Column{}, api.ErrArg)
		}
	}
}

// wrongNames holds strings that are neither names nor empty.
var wrongNames = []string{" ", "_", "1", "1T", "_T", "T ", " T", "T-", "T.U", "T\x00", "\x00", "é", "T\xff", "*", strings.Repeat("T", 21), strings.Repeat("T", 100000)}

// P12.1: types that are no names, also where no edge could have them.
func TestBuildWrongNames(t *testing.T) {
	for _, typ := range wrongNames {
		for _, dir := range []int{api.Out, api.In} {
			buildIs(t, sample(), typ, dir, api.Column{}, api.ErrName)
			buildIs(t, graph.New(), typ, dir, api.Column{}, api.ErrName)
		}
	}
}

// invalid returns graphs that graph.Check rejects with each of its errors.
func invalid() map[api.Errno]api.Graph {
	return map[api.Errno]api.Graph{
		api.ErrLong:  sampleWith(func(g *api.Graph) { g.Nodes[0].Labels = numbered("L", 9) }),
		api.ErrArg:   {},
		api.ErrOrder: sampleWith(func(g *api.Graph) { g.Edges[0], g.Edges[1] = g.Edges[1], g.Edges[0] }),
		api.ErrName:  sampleWith(func(g *api.Graph) { g.Edges[3].Type = "1T" }),
		api.ErrNode:  sampleWith(func(g *api.Graph) { g.Edges[8].To = 4 }),
		api.ErrType:  sampleWith(func(g *api.Graph) { g.Edges[1].Props[0].V = api.Value{} }),
	}
}

// numbered returns n names in increasing order that begin with s.
func numbered(s string, n int) []string {
	var l []string
	for i := range n {
		l = append(l, s+string(rune('a'+i)))
	}
	return l
}

// P12.1: graphs that are not valid, with arguments that have no error and with each of the others: the graph decides.
func TestBuildInvalidGraphs(t *testing.T) {
	for err, g := range invalid() {
		if e := graph.Check(g); e != err {
			t.Fatalf("Check(%s) = %d, want %d", brief(g), e, err)
		}
		for _, dir := range []int{api.Out, api.In, api.Both, 0, -1} {
			for _, typ := range []string{"", "T", "V", "1T", "\x00"} {
				buildIs(t, g, typ, dir, api.Column{}, err)
			}
		}
	}
	for _, edit := range []func(g *api.Graph){
		func(g *api.Graph) { g.NextNode = 10 },
		func(g *api.Graph) { g.NextEdge = 1000002 },
		func(g *api.Graph) { g.Nodes[0].Id = 0 },
		func(g *api.Graph) { g.Edges[0].Id = -1 },
	} {
		buildIs(t, sampleWith(edit), "T", api.Out, api.Column{}, api.ErrArg)
	}
	// Edges of which no type asks for have errors, too.
	buildIs(t, sampleWith(func(g *api.Graph) { g.Edges[1].From = 4 }), "T", api.In, api.Column{}, api.ErrNode)
	buildIs(t, sampleWith(func(g *api.Graph) { g.Edges[8].Id = 12 }), "U", api.In, api.Column{}, api.ErrOrder)
}

// P12.1: beside a wrong direction a wrong type does not count.
func TestBuildTwoErrors(t *testing.T) {
	for _, dir := range wrongDirs {
		for _, typ := range wrongNames {
			if c, e := column.Build(sample(), typ, dir); e != api.ErrArg || !same(c, api.Column{}) {
				t.Errorf("Build(.., %q, %d) = %v, %d", typ, dir, c, e)
			}
		}
	}
}

// large returns a graph with as many nodes and edges as a graph can have.
func large() api.Graph {
	g := api.Graph{NextNode: 1000001, NextEdge: 1000001}
	for i := range 2000 {
		g.Nodes = append(g.Nodes, api.Node{Id: 500*i + 1})
	}
	for i := range 4000 {
		from, to := g.Nodes[i*i%2000].Id, g.Nodes[i*7%600].Id
		g.Edges = append(g.Edges, edge(250*i+250, from, to, []string{"T", "U", "T"}[i%3]))
	}
	return g
}

// P12.1, P12.5: graphs of the greatest size, with edges all over it, and with all of them in one row.
func TestBuildLargeGraphs(t *testing.T) {
	star := large()
	for i := range star.Edges {
		star.Edges[i].From = 501
	}
	for _, g := range []api.Graph{large(), star} {
		for _, typ := range []string{"", "T", "U", "V"} {
			for _, dir := range []int{api.Out, api.In} {
				want, err := built(g, typ, dir)
				buildIs(t, g, typ, dir, want, err)
				isRestored(t, want)
			}
		}
	}
	star.Edges = append(star.Edges, edge(1000000, 1, 1, "T"))
	buildIs(t, star, "", api.Out, api.Column{}, api.ErrLong)
}

// P12.1, P12.6: pseudorandom graphs, by what Build is defined to return.
func TestBuildAnyGraph(t *testing.T) {
	source := rand.New(rand.NewSource(121))
	for range 1000 {
		g := someGraph(source)
		for _, typ := range []string{"", "T", "U", "t", "Tt", "V", "T\n"} {
			for dir := range 5 {
				want, err := built(g, typ, dir)
				buildIs(t, g, typ, dir, want, err)
			}
			turned(t, g, typ)
		}
		stepsAreRows(t, g)
	}
}

// P12.6: the sample, and graphs at the limits.
func TestDirections(t *testing.T) {
	for _, g := range []api.Graph{sample(), graph.New(), large(), graphOf("1 1000000", edge(1, 1000000, 1, "T"), edge(1000000, 1, 1, "U"))} {
		turned(t, g, "")
		turned(t, g, "T")
		turned(t, g, "V")
	}
	stepsAreRows(t, sample())
}

// turned fails if the entries of the columns of g in both directions by type typ are not the same ones with From and To exchanged, or if they are too few.
func turned(t *testing.T, g api.Graph, typ string) {
	t.Helper()
	if typ != "" && !names.MatchString(typ) {
		return
	}
	out, e := column.Build(g, typ, api.Out)
	in, f := column.Build(g, typ, api.In)
	l, m := column.Entries(out), column.Entries(in)
	n := 0
	for _, e := range g.Edges {
		if typ == "" || e.Type == typ {
			n++
		}
	}
	if e != api.OK || f != api.OK || len(l) != n || len(m) != n {
		t.Errorf("Build(%s, %q, ..) leads to %s, %d and %s, %d, want %d entries", brief(g), typ, brief(l), e, brief(m), f, n)
	}
	for i := range m {
		m[i].From, m[i].To = m[i].To, m[i].From
	}
	slices.SortFunc(m, func(a, b api.Adj) int {
		if before(a, b) {
			return -1
		}
		return 1
	})
	if !slices.Equal(l, m) {
		t.Errorf("Build(%s, %q, ..): the entries %s of Out are not those of In turned, %s", brief(g), typ, brief(l), brief(m))
	}
}

// stepsAreRows fails if a row of a column of g is not what graph.Steps returns for the node.
func stepsAreRows(t *testing.T, g api.Graph) {
	t.Helper()
	for _, dir := range []int{api.Out, api.In} {
		for _, types := range [][]string{nil, {"T"}, {"U"}, {"V"}} {
			c, _ := column.Build(g, strings.Join(types, ""), dir)
			for id := range g.NextNode + 1 {
				steps := graph.Steps(g, id, types, dir)
				if row := column.Row(c, id); !slices.Equal(row, steps) || column.Degree(c, id) != len(steps) {
					t.Errorf("Row(Build(%s, %q, %d), %d) = %v, want %v", brief(g), types, dir, id, row, steps)
				}
				if slices.Contains(c.Nodes, id) != (len(steps) > 0) {
					t.Errorf("Build(%s, %q, %d) has the nodes %v", brief(g), types, dir, c.Nodes)
				}
			}
		}
	}
}
