package overlay_test

import (
	"graphdb/api"
	"graphdb/column"
	"graphdb/overlay"
	"math/rand"
	"slices"
	"testing"
)

// P13.7: an entry that is inserted and deleted again, and one that is deleted and inserted again, leaves the entries as they are.
func TestUndone(t *testing.T) {
	source := rand.New(rand.NewSource(137))
	overlays := []api.Overlay{{}, {Base: col("", "0", "", "")}, over(chapter(), "", ""), over(chapter(), "1 1 9", "5"), over(chapter(), "1 2 5", "5"), over(chapter(), "2 1 5", "5"), sample()}
	for range 1500 {
		overlays = append(overlays, someOverlay(source))
	}
	for _, o := range overlays {
		l := overlay.Entries(o)
		for _, a := range l {
			less, err := overlay.Delete(o, a.Edge)
			if rest := overlay.Entries(less); err != api.OK || !overlay.Valid(less) || !slices.Equal(rest, without(l, a)) {
				t.Errorf("Delete(%+v, %d) = %+v, %d, with the entries %v", o, a.Edge, less, err, rest)
			}
			again, err := overlay.Insert(less, a)
			if err != api.OK || !overlay.Valid(again) || !slices.Equal(overlay.Entries(again), l) {
				t.Errorf("%+v without %v and with it is %+v, %d", o, a, again, err)
			}
		}
		for _, a := range slices.Concat(members(api.Overlay{Base: o.Base}), adjs("1 1 999, 7 7 998, 1000000 1000000 1000000")) {
			more, err := overlay.Insert(o, a)
			if err == api.ErrTwice {
				continue
			}
			if all := overlay.Entries(more); err != api.OK || !overlay.Valid(more) || !slices.Equal(all, sorted(append(slices.Clone(l), a))) {
				t.Errorf("Insert(%+v, %v) = %+v, %d, with the entries %v", o, a, more, err, all)
			}
			again, err := overlay.Delete(more, a.Edge)
			if err != api.OK || !overlay.Valid(again) || !slices.Equal(overlay.Entries(again), l) {
				t.Errorf("%+v with %v and without it is %+v, %d", o, a, again, err)
			}
		}
	}
}

// P13.7: an overlay and that of its compacted column have the same entries and rows.
func TestCompacted(t *testing.T) {
	source := rand.New(rand.NewSource(1370))
	overlays := []api.Overlay{{}, {Base: col("", "0", "", "")}, over(chapter(), "", "4 5"), over(chapter(), "1 1 9", "5"), sample()}
	for range 4000 {
		overlays = append(overlays, someOverlay(source))
	}
	for _, o := range overlays {
		c, err := overlay.Compact(o)
		if err != api.OK || !column.Valid(c) || !slices.Equal(column.Entries(c), overlay.Entries(o)) {
			t.Errorf("Compact(%+v) = %+v, %d", o, c, err)
		}
		n, err := overlay.New(c)
		if err != api.OK || !overlay.Valid(n) || !slices.Equal(overlay.Entries(n), overlay.Entries(o)) {
			t.Errorf("New(Compact(%+v)) = %+v, %d", o, n, err)
		}
		for _, id := range askedFor(o, overlay.Entries(o)) {
			if !slices.Equal(overlay.Row(n, id), overlay.Row(o, id)) {
				t.Errorf("Row(New(Compact(%+v)), %d) = %v", o, id, overlay.Row(n, id))
			}
		}
		// Compacted once more, the column stays as it is.
		if again, err := overlay.Compact(n); err != api.OK || !sameColumn(again, c) {
			t.Errorf("Compact(%+v) = %+v, %d", n, again, err)
		}
	}
}

// P13.2 to P13.7: pseudorandom insertions and deletions one after the other, compared after each with a map of the entries by their edges.
func TestHistories(t *testing.T) {
	source := rand.New(rand.NewSource(13700))
	for range 200 {
		o, err := overlay.New(someColumn(source))
		if err != api.OK {
			t.Fatalf("New: %d", err)
		}
		entries := map[int]api.Adj{}
		for _, a := range column.Entries(o.Base) {
			entries[a.Edge] = a
		}
		for range 60 {
			o = next(t, source, o, entries)
			var l []api.Adj
			for _, a := range entries {
				l = append(l, a)
			}
			readsAs(t, o, sorted(l))
		}
	}
}

// next returns o, whose entries are given by their edges, after one more call, which it carries out on the map as well.
func next(t *testing.T, source *rand.Rand, o api.Overlay, entries map[int]api.Adj) api.Overlay {
	t.Helper()
	if source.Intn(2) == 0 {
		edge := someNumber(source, o)
		r, err := overlay.Delete(o, edge)
		if _, found := entries[edge]; found != (err == api.OK) || !found && err != api.ErrEdge {
			t.Errorf("Delete(%+v, %d) = %+v, %d", o, edge, r, err)
		}
		delete(entries, edge)
		return kept(o, r, err)
	}
	a := someAdj(source, someEdge(source))
	if l := column.Entries(o.Base); len(l) > 0 && source.Intn(3) == 0 {
		a = l[source.Intn(len(l))]
	}
	r, err := overlay.Insert(o, a)
	if _, found := entries[a.Edge]; found != (err == api.ErrTwice) || !found && err != api.OK {
		t.Errorf("Insert(%+v, %v) = %+v, %d", o, a, r, err)
	} else if !found {
		entries[a.Edge] = a
	}
	return kept(o, r, err)
}

// kept returns r, what a call returned for o, or o if there was an error.
func kept(o, r api.Overlay, err api.Errno) api.Overlay {
	if err != api.OK {
		return o
	}
	return r
}

// P13.2 to P13.6, R4: calls with equal arguments return equal results, even if what the first one returned has been changed.
func TestCallsAreApart(t *testing.T) {
	o := sample()
	type results struct {
		made, restored, inserted, deleted, dropped api.Overlay
		compacted                                  api.Column
		row, entries                               []api.Adj
	}
	call := func() results {
		var r results
		r.made, _ = overlay.New(o.Base)
		r.restored, _ = overlay.Insert(o, adj("2 1 8"))
		r.inserted, _ = overlay.Insert(o, adj("2 2 8"))
		r.deleted, _ = overlay.Delete(o, 9)
		r.dropped, _ = overlay.Delete(o, 25)
		r.compacted, _ = overlay.Compact(o)
		r.row, r.entries = overlay.Row(o, 5), overlay.Entries(o)
		return r
	}
	first, kept := call(), call()
	for _, r := range []api.Overlay{first.made, first.restored, first.inserted, first.deleted, first.dropped, {Base: first.compacted}} {
		spoilOverlay(t, r)
	}
	spoilEntries(first.row)
	spoilEntries(first.entries)
	again := call()
	for i, pair := range [][2]api.Overlay{{again.made, kept.made}, {again.restored, kept.restored}, {again.inserted, kept.inserted}, {again.deleted, kept.deleted}, {again.dropped, kept.dropped}, {{Base: again.compacted}, {Base: kept.compacted}}} {
		if !same(pair[0], pair[1]) {
			t.Errorf("result %d was %+v and became %+v", i, pair[1], pair[0])
		}
	}
	if !slices.Equal(again.row, kept.row) || !slices.Equal(again.entries, kept.entries) {
		t.Errorf("the results %+v became %+v", kept, again)
	}
}
