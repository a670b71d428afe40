package graph_test

import (
	"fmt"
	"graphdb/api"
	"graphdb/graph"
	"maps"
	"math"
	"math/rand"
	"reflect"
	"regexp"
	"slices"
	"strings"
	"testing"
)

const m = api.MaxInt

// least and greatest are the ends of int.
const (
	least    = math.MinInt
	greatest = math.MaxInt
)

// These write values as api has them.
var null = api.Value{}

func boolean(n int) api.Value       { return api.Value{Kind: api.VBool, N: n} }
func integer(n int) api.Value       { return api.Value{Kind: api.VInt, N: n} }
func ratio(n, d int) api.Value      { return api.Value{Kind: api.VRat, N: n, D: d} }
func str(s string) api.Value        { return api.Value{Kind: api.VStr, S: s} }
func node(n int) api.Value          { return api.Value{Kind: api.VNode, N: n} }
func edge(n int) api.Value          { return api.Value{Kind: api.VEdge, N: n} }
func list(l ...api.Value) api.Value { return api.Value{Kind: api.VList, L: l} }
func path(l ...api.Value) api.Value { return api.Value{Kind: api.VPath, L: l} }

// prop returns a property.
func prop(key string, v api.Value) api.Prop { return api.Prop{Key: key, V: v} }

// sample returns a valid graph with gaps between the ids, a loop, parallel edges and edges in both directions.
func sample() api.Graph {
	return api.Graph{
		NextNode: 10,
		NextEdge: 20,
		Nodes: []api.Node{
			{Id: 1, Labels: []string{"A", "B", "C"}, Props: []api.Prop{prop("a", boolean(1)), prop("b", integer(-m)), prop("c", str("it's"))}},
			{Id: 3, Labels: []string{"B"}, Props: []api.Prop{prop("b", str(""))}},
			{Id: 4},
			{Id: 9, Labels: []string{"C", "a"}, Props: []api.Prop{prop("k", integer(0)), prop("k_", integer(1)), prop("z9", boolean(0))}},
		},
		Edges: []api.Edge{
			{Id: 2, From: 3, To: 1, Type: "T", Props: []api.Prop{prop("a", integer(1)), prop("b", integer(2)), prop("c", integer(3))}},
			{Id: 5, From: 1, To: 3, Type: "U"},
			{Id: 6, From: 1, To: 3, Type: "T", Props: []api.Prop{prop("w", integer(m))}},
			{Id: 7, From: 3, To: 3, Type: "T"},
			{Id: 11, From: 3, To: 9, Type: "u"},
			{Id: 18, From: 9, To: 3, Type: "T"},
			{Id: 19, From: 9, To: 9, Type: "U", Props: []api.Prop{prop("w", str("x"))}},
		},
	}
}

// rebuilt returns a copy of x in new memory, in which every slice l is shape(l).
func rebuilt[T any](x T, shape func(l reflect.Value) reflect.Value) T {
	return rebuild(reflect.ValueOf(x), shape).Interface().(T)
}

// rebuild is rebuilt for reflected values.
func rebuild(v reflect.Value, shape func(l reflect.Value) reflect.Value) reflect.Value {
	out := reflect.New(v.Type()).Elem()
	switch v.Kind() {
	case reflect.Struct:
		for i := range v.NumField() {
			out.Field(i).Set(rebuild(v.Field(i), shape))
		}
	case reflect.Slice:
		out.Set(shape(v))
		for i := range out.Len() {
			out.Index(i).Set(rebuild(out.Index(i), shape))
		}
	default:
		out.Set(v)
	}
	return out
}

// same copies a slice as it is.
func same(l reflect.Value) reflect.Value {
	return reflect.AppendSlice(reflect.Zero(l.Type()), l)
}

// roomy copies a slice into an array with room behind it, which no function may fill.
func roomy(l reflect.Value) reflect.Value {
	out := reflect.MakeSlice(l.Type(), l.Len(), l.Len()+2)
	reflect.Copy(out, l)
	return out
}

// stretched copies a slice with all the room behind it.
func stretched(l reflect.Value) reflect.Value {
	return same(l.Slice(0, l.Cap()))
}

// copied returns a copy of x that shares no memory with it.
func copied[T any](x T) T {
	return rebuilt(x, same)
}

// untouched applies call to a copy of x and fails if call leaves anything in it, or behind it, changed.
func untouched[T any](t *testing.T, x T, call func(x T)) {
	t.Helper()
	x = rebuilt(x, roomy)
	before := rebuilt(x, stretched)
	call(x)
	if after := rebuilt(x, stretched); !reflect.DeepEqual(before, after) {
		t.Fatalf("the argument %v was left as %v", before, after)
	}
}

// anyGraph returns a small pseudorandom graph that need not be valid: ids come again and in any order, and ends need not exist.
func anyGraph(source *rand.Rand) api.Graph {
	ids := []int{least, -2, 0, 1, 2, 3, 4, greatest - 1, greatest}
	pick := func(l []int) int { return l[source.Intn(len(l))] }
	names := []string{"A", "B", "AB", "b", "", "_", "\xff"}
	name := func() string { return names[source.Intn(len(names))] }
	values := []api.Value{null, boolean(1), integer(1), ratio(1, 2), str("A"), list(integer(1)), list(null), {Kind: 77, S: "A"}}
	props := func() []api.Prop {
		var l []api.Prop
		for range source.Intn(4) {
			l = append(l, prop(name(), values[source.Intn(len(values))]))
		}
		return l
	}
	g := api.Graph{NextNode: pick(ids), NextEdge: pick(ids)}
	for range source.Intn(6) {
		n := api.Node{Id: pick(ids), Props: props()}
		for range source.Intn(4) {
			n.Labels = append(n.Labels, name())
		}
		g.Nodes = append(g.Nodes, n)
	}
	for range source.Intn(12) {
		g.Edges = append(g.Edges, api.Edge{Id: pick(ids), From: pick(ids), To: pick(ids), Type: name(), Props: props()})
	}
	return g
}

// anyGraphs returns the sample, the empty graphs and many pseudorandom ones, of which few are valid.
func anyGraphs() []api.Graph {
	source := rand.New(rand.NewSource(7))
	l := []api.Graph{{}, graph.New(), sample(), {Nodes: []api.Node{}, Edges: []api.Edge{}, NextNode: least, NextEdge: greatest}}
	for range 400 {
		l = append(l, anyGraph(source))
	}
	return l
}

// P7.1
func TestNew(t *testing.T) {
	g := graph.New()
	if len(g.Nodes) != 0 || len(g.Edges) != 0 || g.NextNode != 1 || g.NextEdge != 1 {
		t.Errorf("New() = %v", g)
	}
	if r := graph.Check(g); r != api.OK {
		t.Errorf("Check(New()) = %d", r)
	}
	// Whoever adds to a new graph does not change the next new graph.
	g.Nodes, g.Edges = append(g.Nodes, api.Node{Id: 1}), append(g.Edges, api.Edge{Id: 1})
	if h := graph.New(); len(h.Nodes) != 0 || len(h.Edges) != 0 || len(h.Nodes[:cap(h.Nodes)]) != 0 || len(h.Edges[:cap(h.Edges)]) != 0 {
		t.Errorf("the second New() = %v", h)
	}
}

// P7.1
func TestName(t *testing.T) {
	for _, c := range []struct {
		s    string
		want bool
	}{
		{"", false}, {"a", true}, {"z", true}, {"A", true}, {"Z", true}, {"0", false}, {"9", false}, {"_", false}, {" ", false}, {"-", false},
		{"ab", true}, {"a0", true}, {"a9", true}, {"a_", true}, {"_a", false}, {"0a", false}, {"9_", false}, {"__", false}, {"Ab_9", true}, {"a__0__Z", true},
		{"a ", false}, {" a", false}, {"a b", false}, {"a-b", false}, {"a.b", false}, {"a\n", false}, {"a\x00", false}, {"\x00", false}, {"a'", false}, {"a`", false}, {"a@", false}, {"a[", false}, {"a{", false}, {"a/", false}, {"a:", false},
		{"é", false}, {"aé", false}, {"éa", false}, {"ß", false}, {"aµ", false}, {"a\xff", false}, {"\xffa", false}, {"a\x80", false}, {"a\u0663", false}, {"a\uff21", false}, {"\u212a", false},
		{strings.Repeat("a", 19), true}, {strings.Repeat("a", 20), true}, {strings.Repeat("a", 21), false}, {strings.Repeat("Z9_z", 5), true}, {strings.Repeat("Z9_z", 5) + "_", false},
		{strings.Repeat("a", 19) + "_", true}, {strings.Repeat("a", 19) + "-", false}, {strings.Repeat("a", 19) + "é", false}, {strings.Repeat("é", 10), false}, {"_" + strings.Repeat("a", 19), false}, {strings.Repeat("a", 20) + "-", false}, {strings.Repeat("a", 40), false}, {strings.Repeat("a", 276), false}, {strings.Repeat("a", 1000), false}, {strings.Repeat("a", 65556), false},
	} {
		if got := graph.Name(c.s); got != c.want {
			t.Errorf("Name(%q) = %v", c.s, got)
		}
	}
}

// names matches what P7.1 calls a name.
var names = regexp.MustCompile(`^[a-zA-Z][a-zA-Z0-9_]{0,19}$`)

// P7.1: all strings of up to two bytes, and every byte at every place of longer ones.
func TestNameOfAllBytes(t *testing.T) {
	var all []string
	for a := range 256 {
		all = append(all, string([]byte{byte(a)}))
		for b := range 256 {
			all = append(all, string([]byte{byte(a), byte(b)}))
		}
		for size := range 23 {
			for at := range size {
				s := []byte(strings.Repeat("q", size))
				s[at] = byte(a)
				all = append(all, string(s))
			}
		}
	}
	for _, s := range all {
		if got, want := graph.Name(s), names.MatchString(s); got != want {
			t.Fatalf("Name(%q) = %v", s, got)
		}
	}
}

// P7.3: the nodes and edges of a valid graph, and ids beside theirs.
func TestNodeAndEdge(t *testing.T) {
	g := sample()
	nodes, edges := map[int]api.Node{}, map[int]api.Edge{}
	for _, n := range g.Nodes {
		nodes[n.Id] = n
	}
	for _, e := range g.Edges {
		edges[e.Id] = e
	}
	for _, id := range []int{least, -1, 0, 1, 2, 3, 4, 5, 6, 7, 8, 9, 10, 11, 12, 17, 18, 19, 20, api.MaxId, greatest} {
		wantNode, isNode := nodes[id]
		if n, ok := graph.Node(g, id); ok != isNode || !reflect.DeepEqual(n, wantNode) {
			t.Errorf("Node(%d) = %v, %v", id, n, ok)
		}
		wantEdge, isEdge := edges[id]
		if e, ok := graph.Edge(g, id); ok != isEdge || !reflect.DeepEqual(e, wantEdge) {
			t.Errorf("Edge(%d) = %v, %v", id, e, ok)
		}
	}
}

// firstNode returns what Node is defined to return, by a look at all nodes from the last to the first.
func firstNode(g api.Graph, id int) (n api.Node, ok bool) {
	for _, other := range slices.Backward(g.Nodes) {
		if other.Id == id {
			n, ok = other, true
		}
	}
	return n, ok
}

// firstEdge returns what Edge is defined to return.
func firstEdge(g api.Graph, id int) (e api.Edge, ok bool) {
	for _, other := range slices.Backward(g.Edges) {
		if other.Id == id {
			e, ok = other, true
		}
	}
	return e, ok
}

// P7.3: in a graph that is not valid the first one counts, wherever it stands.
func TestFirstNodeAndEdge(t *testing.T) {
	g := api.Graph{
		Nodes: []api.Node{{Id: 7}, {Id: 2, Labels: []string{"first"}}, {Id: -1, Labels: []string{"B", "A"}}, {Id: 2, Labels: []string{"second"}}, {Id: 0, Props: []api.Prop{prop("", null)}}, {Id: 1}},
		Edges: []api.Edge{{Id: 7}, {Id: 2, From: 1}, {Id: -1, To: 5}, {Id: 2, From: 2}, {Id: 0, Type: "0"}, {Id: 1}},
	}
	for _, c := range []struct{ id, at int }{{7, 0}, {2, 1}, {-1, 2}, {0, 4}, {1, 5}} {
		if n, ok := graph.Node(g, c.id); !ok || !reflect.DeepEqual(n, g.Nodes[c.at]) {
			t.Errorf("Node(%d) = %v, %v", c.id, n, ok)
		}
		if e, ok := graph.Edge(g, c.id); !ok || !reflect.DeepEqual(e, g.Edges[c.at]) {
			t.Errorf("Edge(%d) = %v, %v", c.id, e, ok)
		}
	}
	for _, g := range anyGraphs() {
		for _, id := range []int{least, -2, -1, 0, 1, 2, 3, 4, 5, greatest - 1, greatest} {
			wantNode, isNode := firstNode(g, id)
			if n, ok := graph.Node(g, id); ok != isNode || !reflect.DeepEqual(n, wantNode) {
				t.Fatalf("Node(%v, %d) = %v, %v", g, id, n, ok)
			}
			wantEdge, isEdge := firstEdge(g, id)
			if e, ok := graph.Edge(g, id); ok != isEdge || !reflect.DeepEqual(e, wantEdge) {
				t.Fatalf("Edge(%v, %d) = %v, %v", g, id, e, ok)
			}
		}
	}
}

// P7.3
func TestProp(t *testing.T) {
	l := []api.Prop{prop("k", integer(5)), prop("b", str("x")), prop("", list(null)), prop("b", str("y")), prop("a", null), prop("a", integer(1)), prop("odd", api.Value{Kind: 99, N: -1, D: 7, S: "\xff", L: []api.Value{null}}), prop("_", ratio(2, 4)), prop("\xff", boolean(7))}
	for _, c := range []struct {
		key  string
		want api.Value
	}{
		{"k", integer(5)}, {"b", str("x")}, {"", list(null)}, {"a", null}, {"odd", api.Value{Kind: 99, N: -1, D: 7, S: "\xff", L: []api.Value{null}}}, {"_", ratio(2, 4)}, {"\xff", boolean(7)},
		{"K", null}, {"kk", null}, {"bb", null}, {" ", null}, {"od", null}, {"odd ", null}, {"\xfe", null}, {"c", null},
	} {
		if got := graph.Prop(l, c.key); !reflect.DeepEqual(got, c.want) {
			t.Errorf("Prop(%q) = %v", c.key, got)
		}
		for _, none := range [][]api.Prop{nil, {}} {
			if got := graph.Prop(none, c.key); !reflect.DeepEqual(got, null) {
				t.Errorf("Prop of no properties, %q = %v", c.key, got)
			}
		}
	}
	for i, p := range l[:3] {
		if got := graph.Prop(l[i:], p.Key); !reflect.DeepEqual(got, p.V) {
			t.Errorf("Prop from %d on, %q = %v", i, p.Key, got)
		}
	}
}

// P7.3
func TestHasLabel(t *testing.T) {
	for _, c := range []struct {
		labels []string
		label  string
		want   bool
	}{
		{nil, "", false}, {nil, "A", false}, {[]string{}, "A", false}, {[]string{"A"}, "A", true}, {[]string{"A"}, "", false}, {[]string{"A"}, "B", false}, {[]string{"A"}, "a", false}, {[]string{"A"}, "AA", false}, {[]string{"AA"}, "A", false},
		{[]string{"A", "B", "C"}, "A", true}, {[]string{"A", "B", "C"}, "B", true}, {[]string{"A", "B", "C"}, "C", true}, {[]string{"A", "B", "C"}, "D", false}, {[]string{"A", "C", "E"}, "B", false},
		// Labels that no valid node has.
		{[]string{"C", "B", "A"}, "A", true}, {[]string{"C", "B", "A"}, "C", true}, {[]string{"C", "A", "B"}, "B", true}, {[]string{"A", "A"}, "A", true}, {[]string{""}, "", true}, {[]string{"\xff", "_"}, "\xff", true}, {[]string{"\xff", "_"}, "\xfe", false}, {[]string{strings.Repeat("x", 500)}, strings.Repeat("x", 500), true},
	} {
		n := api.Node{Id: 1, Labels: c.labels, Props: []api.Prop{prop("D", str("D")), prop("a", integer(1))}}
		if got := graph.HasLabel(n, c.label); got != c.want {
			t.Errorf("HasLabel(%q, %q) = %v", c.labels, c.label, got)
		}
	}
}

// P7.3
func TestHasType(t *testing.T) {
	for _, c := range []struct {
		kind  string
		types []string
		want  bool
	}{
		{"T", nil, true}, {"T", []string{}, true}, {"", nil, true}, {"\xff", []string{}, true},
		{"T", []string{"T"}, true}, {"T", []string{"U"}, false}, {"T", []string{""}, false}, {"T", []string{"t"}, false}, {"T", []string{"TT"}, false}, {"TT", []string{"T"}, false},
		{"T", []string{"T", "U"}, true}, {"U", []string{"T", "U"}, true}, {"S", []string{"T", "U"}, false}, {"T", []string{"T", "T"}, true}, {"S", []string{"T", "T"}, false}, {"S", []string{"V", "T", "S"}, true}, {"T", []string{"V", "T", "S"}, true},
		{"", []string{""}, true}, {"", []string{"T"}, false}, {"\xff", []string{"_", "\xff"}, true}, {"\xff", []string{"_", "\xfe"}, false},
	} {
		e := api.Edge{Id: 1, From: 1, To: 1, Type: c.kind, Props: []api.Prop{prop("S", str("S"))}}
		if got := graph.HasType(e, c.types); got != c.want {
			t.Errorf("HasType(%q, %q) = %v", c.kind, c.types, got)
		}
	}
}

// P7.5
func TestLabelsAndTypes(t *testing.T) {
	g := sample()
	if got := graph.Labels(g); !slices.Equal(got, []string{"A", "B", "C", "a"}) {
		t.Errorf("Labels = %q", got)
	}
	if got := graph.Types(g); !slices.Equal(got, []string{"T", "U", "u"}) {
		t.Errorf("Types = %q", got)
	}
	odd := api.Graph{
		Nodes: []api.Node{{Labels: []string{"b", "", "b"}}, {}, {Labels: []string{"ab", "a", "\xff"}}, {Labels: []string{"B", "_", "b"}}},
		Edges: []api.Edge{{Type: "b"}, {Type: ""}, {Type: "ab"}, {Type: "b"}, {Type: "\xff"}, {Type: "a"}, {Type: ""}},
	}
	if got := graph.Labels(odd); !slices.Equal(got, []string{"", "B", "_", "a", "ab", "b", "\xff"}) {
		t.Errorf("Labels = %q", got)
	}
	if got := graph.Types(odd); !slices.Equal(got, []string{"", "a", "ab", "b", "\xff"}) {
		t.Errorf("Types = %q", got)
	}
	for _, g := range anyGraphs() {
		labels, types := map[string]bool{}, map[string]bool{}
		for _, n := range g.Nodes {
			for _, l := range n.Labels {
				labels[l] = true
			}
		}
		for _, e := range g.Edges {
			types[e.Type] = true
		}
		if got := graph.Labels(g); !slices.Equal(got, slices.Sorted(maps.Keys(labels))) {
			t.Fatalf("Labels(%v) = %q", g, got)
		}
		if got := graph.Types(g); !slices.Equal(got, slices.Sorted(maps.Keys(types))) {
			t.Fatalf("Types(%v) = %q", g, got)
		}
	}
}

// P7.5: as many labels and types as a graph can have.
func TestLabelsAndTypesOfLargeGraphs(t *testing.T) {
	g := graphOf(api.MaxNodes, api.MaxEdges)
	var labels, types []string
	for i := range g.Nodes {
		for j := range api.MaxLabels {
			l := fmt.Sprintf("L%05d_%d", (i*7)%api.MaxNodes, j)
			g.Nodes[i].Labels = append(g.Nodes[i].Labels, l)
			labels = append(labels, l)
		}
	}
	for i := range g.Edges {
		g.Edges[i].Type = fmt.Sprintf("T%05d", (i*7)%api.MaxEdges)
		types = append(types, g.Edges[i].Type)
	}
	slices.Sort(labels)
	slices.Sort(types)
	if r := graph.Check(g); r != api.OK {
		t.Fatalf("Check = %d", r)
	}
	if !slices.Equal(graph.Labels(g), labels) || !slices.Equal(graph.Types(g), types) {
		t.Error("Labels or Types of a large graph")
	}
}

// P7.1 to P7.5: no function changes its arguments, or what lies behind them, whether they are valid or not (R4).
func TestArgumentsStay(t *testing.T) {
	types := []string{"T", "B", "A", "B"}
	for _, g := range anyGraphs() {
		untouched(t, g, func(g api.Graph) {
			graph.Check(g)
			graph.Labels(g)
			graph.Types(g)
			graph.Same(g, g)
			graph.Same(g, sample())
			graph.Same(sample(), g)
		})
		for _, id := range []int{least, 0, 1, 3, greatest} {
			untouched(t, g, func(g api.Graph) {
				graph.Node(g, id)
				graph.Edge(g, id)
				graph.Steps(g, id, nil, api.Both)
				untouched(t, types, func(types []string) {
					graph.Steps(g, id, types, api.Out)
					graph.Steps(g, id, types, api.In)
					graph.Steps(g, id, types, 0)
				})
			})
		}
		for _, n := range g.Nodes {
			untouched(t, n, func(n api.Node) {
				graph.HasLabel(n, "B")
				graph.Prop(n.Props, "b")
			})
		}
		for _, e := range g.Edges {
			untouched(t, e, func(e api.Edge) {
				untouched(t, types, func(types []string) { graph.HasType(e, types) })
			})
		}
	}
}

// P7.1 to P7.5: equal arguments have equal results, wherever they stand in memory (R4), also if nil stands for empty slices (R3).
func TestEqualArguments(t *testing.T) {
	emptied := func(l reflect.Value) reflect.Value {
		if l.Len() == 0 {
			return reflect.MakeSlice(l.Type(), 0, 3)
		}
		return same(l)
	}
	for _, g := range anyGraphs() {
		h := rebuilt(g, emptied)
		if graph.Check(g) != graph.Check(h) || !graph.Same(g, h) || !graph.Same(h, g) {
			t.Fatalf("Check or Same of %v", g)
		}
		if !slices.Equal(graph.Labels(g), graph.Labels(h)) || !slices.Equal(graph.Types(g), graph.Types(h)) {
			t.Fatalf("Labels or Types of %v", g)
		}
		for _, id := range []int{least, 0, 1, 3, greatest} {
			for dir := range 5 {
				if !slices.Equal(graph.Steps(g, id, nil, dir), graph.Steps(h, id, []string{}, dir)) {
					t.Fatalf("Steps(%v, %d, .., %d)", g, id, dir)
				}
			}
		}
	}
}
