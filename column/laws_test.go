package column_test

import (
	"graphdb/api"
	"graphdb/column"
	"math/rand"
	"slices"
	"testing"
)

// isRestored fails if Of of the entries of c, or Decode of its encoding, is not c, with an empty First if c is empty.
func isRestored(t *testing.T, c api.Column) {
	t.Helper()
	want := c
	if len(c.Nodes) == 0 {
		want.First = nil
	}
	again, err := column.Of(column.Entries(c))
	columnIs(t, "Of(Entries(..))", again, err, want, api.OK)
	again, err = column.Decode(column.Encode(c))
	columnIs(t, "Decode(Encode(..))", again, err, want, api.OK)
}

// P12.5: the columns of the tests of Encode, and the empty column with First [0].
func TestRestored(t *testing.T) {
	for _, c := range encodings() {
		isRestored(t, c.c)
	}
	isRestored(t, col("", "0", "", ""))
}

// P12.5: pseudorandom columns. Of the entries in another order, and of the rows one after the other, the column is the same.
func TestAnyColumnRestored(t *testing.T) {
	source := rand.New(rand.NewSource(125))
	for range 5000 {
		c := someColumn(source)
		isRestored(t, c)
		l := column.Entries(c)
		source.Shuffle(len(l), func(i, j int) { l[i], l[j] = l[j], l[i] })
		again, err := column.Of(l)
		columnIs(t, "Of of the entries in another order", again, err, c, api.OK)
		var rows []api.Adj
		for _, id := range c.Nodes {
			rows = append(rows, column.Row(c, id)...)
		}
		if !slices.Equal(rows, column.Entries(c)) {
			t.Errorf("the rows of %+v are %+v", c, rows)
		}
	}
}

// P12.5: columns that differ have different entries and different encodings.
func TestDifferentColumns(t *testing.T) {
	source := rand.New(rand.NewSource(1250))
	var all []api.Column
	for range 300 {
		all = append(all, ordered(someEntries(source, 2)))
	}
	for i, c := range all {
		for _, d := range all[:i] {
			l := slices.Equal(column.Entries(c), column.Entries(d))
			b := slices.Equal(column.Encode(c), column.Encode(d))
			if l != same(c, d) || b != same(c, d) {
				t.Errorf("of %+v and %+v the entries are equal: %v, and the encodings: %v", c, d, l, b)
			}
		}
	}
}

// P12.1 to P12.5, R4: calls with equal arguments return equal results, even if what the first one returned has been changed.
func TestCallsAreApart(t *testing.T) {
	g, c, l, b := sample(), sampleColumn(), sampleEntries(), coded("1 1 2 +0 +1 +1 +1")
	type results struct {
		built, of, decoded api.Column
		row, entries       []api.Adj
		code               []byte
	}
	call := func() results {
		var r results
		r.built, _ = column.Build(g, "T", api.In)
		r.of, _ = column.Of(l)
		r.decoded, _ = column.Decode(b)
		r.row, r.entries, r.code = column.Row(c, 5), column.Entries(c), column.Encode(c)
		return r
	}
	first, kept := call(), call()
	for _, c := range []api.Column{first.built, first.of, first.decoded} {
		spoilColumn(t, c)
	}
	spoil(first.row, api.Adj{})
	spoil(first.entries, api.Adj{})
	spoil(first.code, 0xee)
	again := call()
	if !same(again.built, kept.built) || !same(again.of, kept.of) || !same(again.decoded, kept.decoded) || !slices.Equal(again.row, kept.row) || !slices.Equal(again.entries, kept.entries) || !slices.Equal(again.code, kept.code) {
		t.Errorf("the results %+v became %+v", kept, again)
	}
}
