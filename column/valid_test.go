package column_test

import (
	"graphdb/api"
	"graphdb/column"
	"math"
	"math/rand"
	"slices"
	"testing"
)

// P12.3: the chapter's columns and the sample.
func TestValidColumns(t *testing.T) {
	readsAs(t, col("2", "0 2", "1 2", "7 8"), adjs("2 1 7, 2 2 8"), coded("1 2 2 -1 +7 +1 +1"))
	readsAs(t, col("1", "0 2", "2 3", "1 2"), adjs("1 2 1, 1 3 2"), []byte{1, 1, 2, 2, 2, 2, 2})
	readsAs(t, sampleColumn(), sampleEntries(), coded("3 1 3 +0 +20 +2 -16 +0 +5 1 1 -1 -1 3 4 -4 +22 +4 -28 +0 +1 +4 -2"))
	// Rows of one node and of two, loops, and ids at the ends of their range.
	readsAs(t, col("1", "0 1", "1", "1"), adjs("1 1 1"), coded("1 1 1 +0 +1"))
	readsAs(t, col("1000000", "0 1", "1000000", "1000000"), adjs("1000000 1000000 1000000"), coded("1 1000000 1 +0 +1000000"))
	readsAs(t, col("1 1000000", "0 2 4", "1 1000000 1 1000000", "1000000 1 999999 2"), adjs("1 1 1000000, 1 1000000 1, 1000000 1 999999, 1000000 1000000 2"), coded("2 1 2 +0 +1000000 +999999 -999999 999999 2 -999999 +999998 +999999 -999997"))
	// Entries with the same To in the order of Edge.
	readsAs(t, col("4", "0 3", "7 7 7", "1 2 1000000"), adjs("4 7 1, 4 7 2, 4 7 1000000"), coded("1 4 3 +3 +1 +0 +1 +0 +999998"))
	// Entries that are less than those of the row before.
	readsAs(t, col("8 9", "0 1 2", "9 1", "6 5"), adjs("8 9 6, 9 1 5"), coded("2 8 1 +1 +6 1 1 -8 -1"))
}

// P12.3: the empty column with First empty and with First [0], and what is not empty although its First is.
func TestEmptyColumns(t *testing.T) {
	for _, c := range []api.Column{{}, {Nodes: []int{}, First: []int{}, To: []int{}, Edge: []int{}}, {First: []int{0}}, {Nodes: []int{}, First: []int{0}, To: []int{}, Edge: []int{}}} {
		readsAs(t, c, nil, []byte{0})
	}
	for what, c := range map[string]api.Column{
		"First [1]":               col("", "1", "", ""),
		"First [-1]":              col("", "-1", "", ""),
		"First [0 0]":             col("", "0 0", "", ""),
		"First [0 1]":             col("", "0 1", "", ""),
		"First [1] and one entry": col("", "1", "1", "1"),
		"First [0] and one entry": col("", "0", "1", "1"),
		"one entry":               col("", "", "1", "1"),
		"one To":                  col("", "", "1", ""),
		"one Edge":                col("", "", "", "1"),
		"First [0] and one To":    col("", "0", "1", ""),
		"First [0] and one Edge":  col("", "0", "", "1"),
		"one node":                col("1", "", "", ""),
		"one node and First [0]":  col("1", "0", "", ""),
		"one node without First":  col("1", "", "1", "1"),
		"one row without entries": col("1", "0 0", "", ""),
	} {
		isRejected(t, what, c)
	}
}

// sampleColumnWith returns the sample as edit leaves it.
func sampleColumnWith(edit func(c *api.Column)) api.Column {
	c := sampleColumn()
	edit(&c)
	return c
}

// P12.3: ids at the ends of their range, and others, at each place of Nodes, To and Edge.
func TestIdsOfColumns(t *testing.T) {
	for _, id := range append(slices.Clone(noIds), 1, 1000000, 999999, 7) {
		for at := range 3 {
			validAsDefined(t, sampleColumnWith(func(c *api.Column) { c.Nodes[at] = id }))
		}
		for at := range 8 {
			validAsDefined(t, sampleColumnWith(func(c *api.Column) { c.To[at] = id }))
			validAsDefined(t, sampleColumnWith(func(c *api.Column) { c.Edge[at] = id }))
		}
	}
	for _, id := range noIds {
		n := []int{id}
		isRejected(t, "a node", api.Column{Nodes: n, First: []int{0, 1}, To: []int{1}, Edge: []int{1}})
		isRejected(t, "a To", api.Column{Nodes: []int{1}, First: []int{0, 1}, To: n, Edge: []int{1}})
		isRejected(t, "an Edge", api.Column{Nodes: []int{1}, First: []int{0, 1}, To: []int{1}, Edge: n})
	}
}

// validAsDefined fails if c is not what isValid says of it, or is not read accordingly.
func validAsDefined(t *testing.T, c api.Column) {
	t.Helper()
	if isValid(c) {
		readsAs(t, c, entriesOf(c), encoded(c))
	} else {
		isRejected(t, "by the definition", c)
	}
}

// P12.3: columns that differ from the sample in what one condition forbids.
func TestInvalidColumns(t *testing.T) {
	for what, edit := range map[string]func(c *api.Column){
		"equal nodes":                                 func(c *api.Column) { c.Nodes[1] = 1 },
		"equal nodes at the end":                      func(c *api.Column) { c.Nodes[2] = 2 },
		"decreasing nodes":                            func(c *api.Column) { c.Nodes[0] = 3 },
		"decreasing nodes at the end":                 func(c *api.Column) { c.Nodes[1], c.Nodes[2] = 5, 2 },
		"a node too many":                             func(c *api.Column) { c.Nodes = append(c.Nodes, 6) },
		"a node too few":                              func(c *api.Column) { c.Nodes = c.Nodes[:2] },
		"no nodes":                                    func(c *api.Column) { c.Nodes = nil },
		"no First":                                    func(c *api.Column) { c.First = nil },
		"First without its end":                       func(c *api.Column) { c.First = c.First[:3] },
		"First without its beginning":                 func(c *api.Column) { c.First = c.First[1:] },
		"First without a bound in between":            func(c *api.Column) { c.First = []int{0, 3, 8} },
		"First that is too long":                      func(c *api.Column) { c.First = append(c.First, 9) },
		"First with a bound in between":               func(c *api.Column) { c.First = []int{0, 2, 3, 4, 8} },
		"First that begins with 1":                    func(c *api.Column) { c.First[0] = 1 },
		"First that begins with -1":                   func(c *api.Column) { c.First[0] = -1 },
		"First that begins with the least":            func(c *api.Column) { c.First[0] = math.MinInt },
		"equal bounds at the beginning":               func(c *api.Column) { c.First[1] = 0 },
		"equal bounds in between":                     func(c *api.Column) { c.First[1] = 4 },
		"equal bounds at the end":                     func(c *api.Column) { c.First[2] = 8 },
		"decreasing bounds":                           func(c *api.Column) { c.First[1] = 5 },
		"decreasing bounds at the end":                func(c *api.Column) { c.First[2] = 9 },
		"a bound less than 0":                         func(c *api.Column) { c.First[1] = -1 },
		"a bound far beyond the end":                  func(c *api.Column) { c.First[2] = math.MaxInt },
		"an end that is too small":                    func(c *api.Column) { c.First[3] = 7 },
		"an end that is too great":                    func(c *api.Column) { c.First[3] = 9 },
		"an end that is far too great":                func(c *api.Column) { c.First[3] = math.MaxInt },
		"a To too many":                               func(c *api.Column) { c.To = append(c.To, 10) },
		"a To too few":                                func(c *api.Column) { c.To = c.To[:7] },
		"no To":                                       func(c *api.Column) { c.To = nil },
		"an Edge too many":                            func(c *api.Column) { c.Edge = append(c.Edge, 10) },
		"an Edge too few":                             func(c *api.Column) { c.Edge = c.Edge[:7] },
		"no Edge":                                     func(c *api.Column) { c.Edge = nil },
		"an entry too many":                           func(c *api.Column) { c.To, c.Edge = append(c.To, 10), append(c.Edge, 10) },
		"an entry too few":                            func(c *api.Column) { c.To, c.Edge = c.To[:7], c.Edge[:7] },
		"no entries":                                  func(c *api.Column) { c.To, c.Edge = nil, nil },
		"a row out of the order of To":                func(c *api.Column) { c.To[0] = 4 },
		"a row out of the order of To, later":         func(c *api.Column) { c.To[7] = 4 },
		"the same To out of the order of Edge":        func(c *api.Column) { c.Edge[1], c.Edge[2] = 9, 4 },
		"the same To out of the order of Edge, later": func(c *api.Column) { c.Edge[5], c.Edge[6] = 3, 2 },
		"an edge twice beside each other":             func(c *api.Column) { c.Edge[2] = 4 },
		"an edge twice in one row":                    func(c *api.Column) { c.Edge[0] = 9 },
		"an edge twice in the last row":               func(c *api.Column) { c.Edge[4] = 1 },
		"an edge twice in different rows":             func(c *api.Column) { c.Edge[3] = 20 },
		"an edge first and last":                      func(c *api.Column) { c.Edge[7] = 20 },
	} {
		c := sampleColumnWith(edit)
		if isValid(c) {
			t.Errorf("%s: the definition does not reject %+v", what, c)
		}
		isRejected(t, what, c)
	}
	isRejected(t, "decreasing nodes", col("2 1", "0 1 2", "1 1", "1 2"))
}

// P12.3: nothing else forbids a column: rows need no order among each other, and ids may be those of nodes and edges.
func TestOtherValidColumns(t *testing.T) {
	for _, edit := range []func(c *api.Column){
		func(c *api.Column) { c.Nodes = []int{999998, 999999, 1000000} },
		func(c *api.Column) { c.First = []int{0, 1, 3, 8} },
		func(c *api.Column) { c.To[2] = 1000000 },
		func(c *api.Column) { c.To[3] = 9 },
		func(c *api.Column) { c.To[4] = 5; c.Edge[4] = 1; c.Edge[7] = 30 },
		func(c *api.Column) { c.Edge[0], c.Edge[7] = 1, 20 },
	} {
		c := sampleColumnWith(edit)
		if !isValid(c) {
			t.Errorf("the definition rejects %+v", c)
		}
		validAsDefined(t, c)
	}
}

// lists calls visit with all lists of at most most integers from low to high.
func lists(most, low, high int, visit func(l []int)) {
	var longer func(l []int)
	longer = func(l []int) {
		visit(l)
		if len(l) == most {
			return
		}
		for n := low; n <= high; n++ {
			longer(append(slices.Clone(l), n))
		}
	}
	longer(nil)
}

// P12.3: all columns of at most two nodes and two entries with small ids.
func TestSmallColumns(t *testing.T) {
	valid, invalid := 0, 0
	lists(2, 0, 3, func(nodes []int) {
		lists(3, 0, 3, func(first []int) {
			lists(2, 0, 2, func(to []int) {
				lists(2, 0, 2, func(edge []int) {
					c := api.Column{Nodes: nodes, First: first, To: to, Edge: edge}
					if got := column.Valid(c); got != isValid(c) {
						t.Errorf("Valid(%+v) = %v", c, got)
					}
					if isValid(c) {
						validAsDefined(t, c)
						valid++
					} else {
						invalid++
					}
				})
			})
		})
	})
	// Two are empty, 3*2*2 have one entry, 3*(1+1+2) two entries in one row (To 1 1 or 2 2 with the edges in order, 1 2 with the edges in any order), and 3*4*2 two in two rows.
	if valid != 2+12+12+24 || invalid < 100000 {
		t.Errorf("%d columns are valid, and %d are not", valid, invalid)
	}
}

// P12.3: pseudorandom columns, as they are and with a few integers replaced, exchanged, removed or added.
func TestAnyColumn(t *testing.T) {
	source := rand.New(rand.NewSource(123))
	valid := 0
	for i := range 20000 {
		c := someColumn(source)
		for range i % 3 {
			l := []*[]int{&c.Nodes, &c.First, &c.To, &c.Edge}[source.Intn(4)]
			*l = disturbed(source, *l)
		}
		if isValid(c) {
			valid++
		}
		validAsDefined(t, c)
	}
	if valid < 7000 || valid > 19000 {
		t.Errorf("%d of 20000 columns are valid", valid)
	}
}

// disturbed returns a copy of l with one integer replaced, exchanged, removed or added.
func disturbed(source *rand.Rand, l []int) []int {
	l = slices.Clone(l)
	n := source.Intn(8)
	if source.Intn(3) == 0 {
		n = noIds[source.Intn(len(noIds))]
	}
	if len(l) == 0 {
		return []int{n}
	}
	at := source.Intn(len(l))
	switch source.Intn(5) {
	case 0:
		l[at] = n
	case 1:
		l[at]++
	case 2:
		l[at], l[0] = l[0], l[at]
	case 3:
		l = slices.Delete(l, at, at+1)
	case 4:
		l = slices.Insert(l, at, n)
	}
	return l
}
