package trie_test

import (
	"fmt"
	"graphdb/api"
	"graphdb/trie"
	"math"
	"reflect"
	"slices"
	"strconv"
	"strings"
	"testing"
)

// extremes holds integers whose differences leave the range of int, and those that would be other ones if some of their bits were lost.
var extremes = []int{math.MinInt, math.MinInt + 1, -1 << 32, -1, 0, 1, 1 << 32, math.MaxInt - 1, math.MaxInt}

// extremeRows returns the rows of one and of two extreme integers, in order.
func extremeRows() (single, pairs [][]int) {
	for _, a := range extremes {
		single = append(single, []int{a})
		for _, b := range extremes {
			pairs = append(pairs, []int{a, b})
		}
	}
	return single, pairs
}

// numbers returns the integers that blanks separate in text.
func numbers(text string) []int {
	var l []int
	for _, word := range strings.Fields(text) {
		n, err := strconv.Atoi(word)
		if err != nil {
			panic(err)
		}
		l = append(l, n)
	}
	return l
}

// rows returns the rows that commas separate in text.
func rows(text string) [][]int {
	var l [][]int
	for _, part := range strings.Split(text, ",") {
		if n := numbers(part); len(n) > 0 {
			l = append(l, n)
		}
	}
	return l
}

// rel returns the relation with these rows.
func rel(arity int, text string) api.Rel {
	return api.Rel{Arity: arity, Rows: rows(text)}
}

// levels returns the trie with the levels that semicolons separate in text, each as its Keys, a bar and its First.
func levels(text string) api.Trie {
	var t api.Trie
	for _, part := range strings.Split(text, ";") {
		keys, first, _ := strings.Cut(part, "|")
		t.Levels = append(t.Levels, api.Level{Keys: numbers(keys), First: numbers(first)})
	}
	return t
}

// cur returns the cursor with these lists.
func cur(at, end string) api.Cursor {
	return api.Cursor{At: numbers(at), End: numbers(end)}
}

// chapter returns the relation of the chapter's examples.
func chapter() api.Rel {
	return rel(2, "1 3, 1 5, 2 1")
}

// chapterTrie returns the trie of the chapter's examples.
func chapterTrie() api.Trie {
	return levels("1 2 | 0 2; 3 5 1 | 0 2 3")
}

// sample returns a relation whose trie has lists of one, two, three and four siblings.
func sample() api.Rel {
	return rel(3, "-5 0 7, -5 2 1, -5 2 3, -5 2 9, 0 4 4, 3 0 0, 3 0 8, 3 1 2, 3 1 5, 3 1 6, 3 9 -1, 8 2 2")
}

// sampleTrie returns the trie of the sample.
func sampleTrie() api.Trie {
	return levels("-5 0 3 8 | 0 4; 0 2 4 0 1 9 2 | 0 2 3 6 7; 7 1 3 9 4 0 8 2 5 6 -1 2 | 0 1 4 5 7 10 11 12")
}

// sampleWith returns the trie of the sample as edit leaves it.
func sampleWith(edit func(l []api.Level)) api.Trie {
	x := sampleTrie()
	edit(x.Levels)
	return x
}

// input is what a function may take.
type input struct {
	rel    api.Rel
	trie   api.Trie
	cursor api.Cursor
	list   []int
}

// guarded returns a copy of l with one more element in the capacity behind its last one.
func guarded[T any](l []T) []T {
	var guard T
	if len(l) > 0 {
		guard = l[0]
	}
	return slices.Concat(l, []T{guard})[:len(l)]
}

// whole returns a copy of l that has all of the capacity of l as its length.
func whole[T any](l []T) []T {
	return slices.Clone(l[:cap(l)])
}

// each returns a copy of x in which edit has been applied to all its lists of integers, and no list of rows or levels is that of x.
func each(x input, edit func(l []int) []int) input {
	x.rel.Rows = guarded(x.rel.Rows)
	for i, row := range x.rel.Rows {
		x.rel.Rows[i] = edit(row)
	}
	x.trie.Levels = guarded(x.trie.Levels)
	for k, l := range x.trie.Levels {
		x.trie.Levels[k] = api.Level{Keys: edit(l.Keys), First: edit(l.First)}
	}
	x.cursor = api.Cursor{At: edit(x.cursor.At), End: edit(x.cursor.End)}
	x.list = edit(x.list)
	return x
}

// guard returns a copy of x that shares no slice with it and has guarded slices.
func guard(x input) input {
	return each(x, guarded[int])
}

// reveal returns x with the capacity of its slices as their length, so that what stands behind their ends counts.
func reveal(x input) input {
	rows, levels := whole(x.rel.Rows), whole(x.trie.Levels)
	x = each(x, whole[int])
	x.rel.Rows = append(x.rel.Rows, rows[len(x.rel.Rows):]...)
	x.trie.Levels = append(x.trie.Levels, levels[len(x.trie.Levels):]...)
	return x
}

// untouched calls call with a copy of x, and fails if the call changes anything in it or behind it.
func untouched(t *testing.T, x input, call func(x input)) {
	t.Helper()
	// Two copies made in the same way are equal as long as nothing changes one of them.
	given, kept := guard(x), guard(x)
	call(given)
	if !reflect.DeepEqual(reveal(given), reveal(kept)) {
		t.Errorf("the arguments %s became %s", brief(kept), brief(given))
	}
}

// spoil overwrites the lists and the capacity behind them, and fails if two of them share memory. If one shares memory with something else, this changes as well.
func spoil(t *testing.T, lists ...[]int) {
	t.Helper()
	for i, l := range lists {
		for j := range l[:cap(l)] {
			l[:cap(l)][j] = -77 - i
		}
	}
	for i, l := range lists {
		for _, n := range whole(l) {
			if n != -77-i {
				t.Fatalf("two lists of one result share memory")
			}
		}
	}
}

// spoilRows overwrites the rows of l and l itself.
func spoilRows(t *testing.T, l [][]int) {
	t.Helper()
	spoil(t, l...)
	clear(l[:cap(l)])
}

// spoilTrie overwrites the lists of x and its levels.
func spoilTrie(t *testing.T, x api.Trie) {
	t.Helper()
	var lists [][]int
	for _, l := range x.Levels {
		lists = append(lists, l.Keys, l.First)
	}
	spoil(t, lists...)
	clear(x.Levels[:cap(x.Levels)])
}

// sameRows reports whether the rows of a and b are equal.
func sameRows(a, b [][]int) bool {
	return slices.EqualFunc(a, b, slices.Equal[[]int])
}

// sameTrie reports whether the levels of a and b are equal.
func sameTrie(a, b api.Trie) bool {
	return slices.EqualFunc(a.Levels, b.Levels, func(a, b api.Level) bool {
		return slices.Equal(a.Keys, b.Keys) && slices.Equal(a.First, b.First)
	})
}

// sameCursor reports whether the lists of a and b are equal.
func sameCursor(a, b api.Cursor) bool {
	return slices.Equal(a.At, b.At) && slices.Equal(a.End, b.End)
}

// brief returns a text for x, the beginning of it if it is long.
func brief(x any) string {
	text := fmt.Sprintf("%+v", x)
	if len(text) > 2000 {
		return text[:2000] + ".."
	}
	return text
}

// relIs fails if r and e, what call returned, are not the relation with that arity and the rows want, or err and the zero relation. It overwrites r.
func relIs(t *testing.T, call func() string, r api.Rel, e api.Errno, arity int, want [][]int, err api.Errno) {
	t.Helper()
	if err != api.OK {
		arity = 0
	}
	if e != err || r.Arity != arity || !sameRows(r.Rows, want) {
		t.Errorf("%s = %s, %d, want %d %s, %d", call(), brief(r), e, arity, brief(want), err)
	}
	if e == api.OK && trie.Check(r) != api.OK {
		t.Errorf("%s = %s, which Check does not accept", call(), brief(r))
	}
	spoilRows(t, r.Rows)
}

// ofIs fails if Of of the arity and the rows l is not the relation with the rows want, or err, or if l changes.
func ofIs(t *testing.T, arity int, l, want [][]int, err api.Errno) {
	t.Helper()
	untouched(t, input{rel: api.Rel{Rows: l}}, func(x input) {
		r, e := trie.Of(arity, x.rel.Rows)
		relIs(t, func() string { return fmt.Sprintf("Of(%d, %s)", arity, brief(l)) }, r, e, arity, want, err)
	})
}

// permuteIs fails if Permute of r by order is not the relation with the rows want, or err, or if an argument changes.
func permuteIs(t *testing.T, r api.Rel, order []int, want [][]int, err api.Errno) {
	t.Helper()
	untouched(t, input{rel: r, list: order}, func(x input) {
		p, e := trie.Permute(x.rel, x.list)
		relIs(t, func() string { return fmt.Sprintf("Permute(%s, %v)", brief(r), order) }, p, e, r.Arity, want, err)
	})
}

// checkIs fails if Check of r is not err or if r changes.
func checkIs(t *testing.T, r api.Rel, err api.Errno) {
	t.Helper()
	untouched(t, input{rel: r}, func(x input) {
		if e := trie.Check(x.rel); e != err {
			t.Errorf("Check(%s) = %d, want %d", brief(r), e, err)
		}
	})
}

// buildIs fails if Build of r is not want and err, or if r changes. With an error, want must be empty.
func buildIs(t *testing.T, r api.Rel, want api.Trie, err api.Errno) {
	t.Helper()
	untouched(t, input{rel: r}, func(x input) {
		got, e := trie.Build(x.rel)
		if e != err || !sameTrie(got, want) {
			t.Errorf("Build(%s) = %s, %d, want %s, %d", brief(r), brief(got), e, brief(want), err)
		}
		spoilTrie(t, got)
	})
}

// isNoRelation fails if err is not the error of r for each function that takes a relation, or if r changes.
func isNoRelation(t *testing.T, r api.Rel, err api.Errno) {
	t.Helper()
	checkIs(t, r, err)
	buildIs(t, r, api.Trie{}, err)
	// Orders that would be right for the arity, and for that of some row, and wrong ones.
	orders := [][]int{nil, {0}, {1, 0}, {0, 0}, {2, 0, 1}, {-1}, {0, 1, 2, 3, 4, 5, 6, 7, 8}}
	if r.Arity > 0 && r.Arity < 20 {
		orders = append(orders, upTo(r.Arity))
	}
	for _, order := range orders {
		permuteIs(t, r, order, nil, err)
	}
}

// upTo returns the integers from 0 to n-1.
func upTo(n int) []int {
	l := make([]int, n)
	for i := range l {
		l[i] = i
	}
	return l
}

// rowsAre fails if x is not valid or its rows are not l, or if x changes.
func rowsAre(t *testing.T, x api.Trie, l [][]int) {
	t.Helper()
	untouched(t, input{trie: x}, func(in input) {
		if !trie.Valid(in.trie) {
			t.Errorf("Valid(%s) = false", brief(x))
		}
		got := trie.Rows(in.trie)
		if !sameRows(got, l) {
			t.Errorf("Rows(%s) = %s, want %s", brief(x), brief(got), brief(l))
		}
		spoilRows(t, got)
	})
}

// childrenAre fails if the children of prefix in x are not want, or if an argument changes.
func childrenAre(t *testing.T, x api.Trie, prefix, want []int) {
	t.Helper()
	untouched(t, input{trie: x, list: prefix}, func(in input) {
		got := trie.Children(in.trie, in.list)
		if !slices.Equal(got, want) {
			t.Errorf("Children(%s, %v) = %v, want %v", brief(x), prefix, got, want)
		}
		spoil(t, got)
	})
}

// keyIs fails if the key at c in x is not want and is, or if an argument changes.
func keyIs(t *testing.T, x api.Trie, c api.Cursor, want int, is bool) {
	t.Helper()
	untouched(t, input{trie: x, cursor: c}, func(in input) {
		if key, ok := trie.Key(in.trie, in.cursor); key != want || ok != is {
			t.Errorf("Key(%s, %v) = %d, %v, want %d, %v", brief(x), c, key, ok, want, is)
		}
	})
}

// step is a function that moves a cursor.
type step func(x api.Trie, c api.Cursor) (api.Cursor, bool)

// seek returns Seek for the key n as a step.
func seek(n int) step {
	return func(x api.Trie, c api.Cursor) (api.Cursor, bool) { return trie.Seek(x, c, n) }
}

// stepIs fails if the step from c in x does not lead to want, or to nothing if is is false, or if an argument changes.
func stepIs(t *testing.T, name string, take step, x api.Trie, c, want api.Cursor, is bool) {
	t.Helper()
	untouched(t, input{trie: x, cursor: c}, func(in input) {
		got, ok := take(in.trie, in.cursor)
		if ok != is || !sameCursor(got, want) {
			t.Errorf("%s(%s, %v) = %v, %v, want %v, %v", name, brief(x), c, got, ok, want, is)
		}
		spoil(t, got.At, got.End)
	})
}

// isNoCursor fails if a function does not say that c is not valid for x, or if an argument changes.
func isNoCursor(t *testing.T, x api.Trie, c api.Cursor) {
	t.Helper()
	keyIs(t, x, c, 0, false)
	stepIs(t, "Down", trie.Down, x, c, api.Cursor{}, false)
	stepIs(t, "Up", trie.Up, x, c, api.Cursor{}, false)
	stepIs(t, "Next", trie.Next, x, c, api.Cursor{}, false)
	for _, n := range []int{math.MinInt, -1, 0, 1, 3, math.MaxInt} {
		stepIs(t, "Seek", seek(n), x, c, api.Cursor{}, false)
	}
}

// isRejected fails if x is valid, if a function does not say so, or if x changes.
func isRejected(t *testing.T, what string, x api.Trie) {
	t.Helper()
	untouched(t, input{trie: x}, func(in input) {
		if trie.Valid(in.trie) {
			t.Errorf("%s: Valid(%s) = true", what, brief(x))
		}
		if l := trie.Rows(in.trie); l != nil {
			t.Errorf("%s: Rows(%s) = %s", what, brief(x), brief(l))
		}
		var prefix []int
		for _, l := range in.trie.Levels {
			if got := trie.Children(in.trie, prefix); len(got) > 0 {
				t.Errorf("%s: Children(%s, %v) = %s", what, brief(x), prefix, brief(got))
			}
			// The path of the first keys.
			if len(l.Keys) > 0 {
				prefix = append(prefix, l.Keys[0])
			}
		}
		for _, c := range likely(in.trie) {
			if key, ok := trie.Key(in.trie, c); ok || key != 0 {
				t.Errorf("%s: Key(%s, %v) = %d, %v", what, brief(x), c, key, ok)
			}
			for _, take := range []step{trie.Down, trie.Up, trie.Next, seek(math.MinInt), seek(0), seek(math.MaxInt)} {
				if r, ok := take(in.trie, c); ok || !sameCursor(r, api.Cursor{}) {
					t.Errorf("%s: a step from %v in %s = %v, %v", what, c, brief(x), r, ok)
				}
			}
		}
	})
}

// likely returns the root and cursors that would be valid for x if its levels began like those of a trie.
func likely(x api.Trie) []api.Cursor {
	list := []api.Cursor{{}, cur("0", "1"), cur("0", "2"), cur("0 0", "1 1"), cur("0 0", "2 2")}
	var c api.Cursor
	for _, l := range x.Levels {
		if len(l.First) < 2 {
			break
		}
		c = api.Cursor{At: append(slices.Clone(c.At), 0), End: append(slices.Clone(c.End), l.First[1])}
		list = append(list, c)
	}
	return list
}
