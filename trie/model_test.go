package trie_test

import (
	"graphdb/api"
	"graphdb/trie"
	"math"
	"math/rand"
	"slices"
	"testing"
)

// before reports whether row a comes before row b, which is as long.
func before(a, b []int) bool {
	for i := range a {
		if a[i] != b[i] {
			return a[i] < b[i]
		}
	}
	return false
}

// distinct returns the rows of l, which are all as long, in order and each of them once. How many others come before a row says where it stands.
func distinct(l [][]int) [][]int {
	var once [][]int
	for _, row := range l {
		if !slices.ContainsFunc(once, func(other []int) bool { return slices.Equal(other, row) }) {
			once = append(once, row)
		}
	}
	r := make([][]int, len(once))
	for _, row := range once {
		at := 0
		for _, other := range once {
			if before(other, row) {
				at++
			}
		}
		r[at] = row
	}
	return r
}

// isRelation reports whether l are the rows of a relation with that arity.
func isRelation(arity int, l [][]int) bool {
	for i, row := range l {
		if len(row) != arity || i > 0 && !before(l[i-1], row) {
			return false
		}
	}
	return arity >= 1 && arity <= 8 && len(l) <= 20000
}

// checked returns what Check is defined to return.
func checked(r api.Rel) api.Errno {
	wrong, ordered := r.Arity < 1 || r.Arity > 8, true
	for _, row := range r.Rows {
		wrong = wrong || len(row) != r.Arity
	}
	if wrong {
		return api.ErrArg
	}
	for i := range r.Rows {
		ordered = ordered && (i == 0 || before(r.Rows[i-1], r.Rows[i]))
	}
	switch {
	case len(r.Rows) > 20000:
		return api.ErrLong
	case !ordered:
		return api.ErrOrder
	}
	return api.OK
}

// permuted returns the rows whose column i is column order[i] of l, in order.
func permuted(l [][]int, order []int) [][]int {
	var r [][]int
	for _, row := range l {
		other := make([]int, len(row))
		for i, column := range order {
			other[i] = row[column]
		}
		r = append(r, other)
	}
	return distinct(r)
}

// prefixes returns the distinct beginnings of n elements that the rows of l have, which are in order. The empty one is there even if there are no rows.
func prefixes(l [][]int, n int) [][]int {
	if n == 0 {
		return [][]int{nil}
	}
	var r [][]int
	for i, row := range l {
		if i == 0 || !slices.Equal(l[i-1][:n], row[:n]) {
			r = append(r, row[:n])
		}
	}
	return r
}

// childrenOf returns the distinct integers that follow prefix in the rows of l, which are in order.
func childrenOf(l [][]int, prefix []int) []int {
	var r []int
	for _, row := range l {
		n := len(prefix)
		if n < len(row) && slices.Equal(row[:n], prefix) && !slices.Contains(r, row[n]) {
			r = append(r, row[n])
		}
	}
	return r
}

// trieOf returns the trie of the relation with these rows, which are in order.
func trieOf(arity int, l [][]int) api.Trie {
	var x api.Trie
	for k := range arity {
		level := api.Level{First: []int{0}}
		for _, prefix := range prefixes(l, k) {
			level.Keys = append(level.Keys, childrenOf(l, prefix)...)
			level.First = append(level.First, len(level.Keys))
		}
		x.Levels = append(x.Levels, level)
	}
	return x
}

// pathsOf returns the paths of keys from the first level to the last one, and false if First of a level leads out of it.
func pathsOf(x api.Trie) ([][]int, bool) {
	var paths [][]int
	sound := true
	var follow func(k, above int, path []int)
	follow = func(k, above int, path []int) {
		if k == len(x.Levels) {
			paths = append(paths, path)
			return
		}
		l := x.Levels[k]
		if above+1 >= len(l.First) {
			sound = false
			return
		}
		for i := l.First[above]; i < l.First[above+1]; i++ {
			if i < 0 || i >= len(l.Keys) {
				sound = false
				return
			}
			follow(k+1, i, append(slices.Clone(path), l.Keys[i]))
		}
	}
	follow(0, 0, nil)
	return paths, sound
}

// isTrie reports whether x is the trie of a relation. This can only be the one whose rows its paths are.
func isTrie(x api.Trie) bool {
	if len(x.Levels) < 1 {
		return false
	}
	l, sound := pathsOf(x)
	return sound && isRelation(len(x.Levels), l) && sameTrie(x, trieOf(len(x.Levels), l))
}

// asDefined fails if Valid or Rows of x is not what its definition says, or if a function takes x although it is not valid.
func asDefined(t *testing.T, x api.Trie) {
	t.Helper()
	if isTrie(x) {
		l, _ := pathsOf(x)
		rowsAre(t, x, l)
	} else {
		isRejected(t, "by the definition", x)
	}
}

// cursorOf returns the cursor at the end of a path of keys. The current key of a level is behind all that other beginnings of rows have there, and so is the end of its siblings.
func cursorOf(l [][]int, path []int) api.Cursor {
	var c api.Cursor
	for k := range path {
		at, end := 0, 0
		for _, prefix := range prefixes(l, k+1) {
			if before(prefix, path[:k+1]) {
				at++
			}
			if !before(path[:k], prefix[:k]) {
				end++
			}
		}
		c.At, c.End = append(c.At, at), append(c.End, end)
	}
	return c
}

// paths returns the beginnings of the rows of l, which are in order, of every length from 0 to arity.
func paths(arity int, l [][]int) [][]int {
	var r [][]int
	for n := range arity + 1 {
		r = append(r, prefixes(l, n)...)
	}
	return r
}

// somewhere fails if the step from the path leads to another place than the path want, or to one if want is nil.
func somewhere(t *testing.T, name string, take step, x api.Trie, l [][]int, path, want []int) {
	t.Helper()
	c := api.Cursor{}
	if want != nil {
		c = cursorOf(l, want)
	}
	stepIs(t, name, take, x, cursorOf(l, path), c, want != nil)
}

// stepsAsDefined fails if a function returns something else for a valid cursor of the trie of the rows l than its definition says.
func stepsAsDefined(t *testing.T, arity int, l [][]int) {
	t.Helper()
	x := trieOf(arity, l)
	for _, path := range paths(arity, l) {
		children := childrenOf(l, path)
		childrenAre(t, x, path, children)
		var down []int
		if len(children) > 0 {
			down = slices.Concat(path, children[:1])
		}
		somewhere(t, "Down", trie.Down, x, l, path, down)
		if len(path) == 0 {
			isAtRoot(t, x)
			continue
		}
		n := len(path) - 1
		key, up := path[n], append([]int{}, path[:n]...)
		keyIs(t, x, cursorOf(l, path), key, true)
		somewhere(t, "Up", trie.Up, x, l, path, up)
		siblings := childrenOf(l, up)
		somewhere(t, "Next", trie.Next, x, l, path, among(siblings, up, func(other int) bool { return other > key }))
		for _, sought := range soughtFor(siblings) {
			somewhere(t, "Seek", seek(sought), x, l, path, among(siblings, up, func(other int) bool { return other >= key && other >= sought }))
		}
	}
}

// among returns the path from up to the first of the siblings for which test holds, or nil if there is none.
func among(siblings, up []int, test func(key int) bool) []int {
	for _, key := range siblings {
		if test(key) {
			return slices.Concat(up, []int{key})
		}
	}
	return nil
}

// soughtFor returns, each once, the keys, those beside them, and the least and the greatest integer.
func soughtFor(keys []int) []int {
	l := []int{math.MinInt, math.MaxInt}
	for _, key := range keys {
		l = append(l, key-1, key, key+1)
	}
	slices.Sort(l)
	return slices.Compact(l)
}

// isAtRoot fails if a function finds a key or a way up, on or to a key at the root of x.
func isAtRoot(t *testing.T, x api.Trie) {
	t.Helper()
	for _, c := range []api.Cursor{{}, {At: []int{}, End: []int{}}} {
		keyIs(t, x, c, 0, false)
		stepIs(t, "Up", trie.Up, x, c, api.Cursor{}, false)
		stepIs(t, "Next", trie.Next, x, c, api.Cursor{}, false)
		for _, n := range extremes {
			stepIs(t, "Seek", seek(n), x, c, api.Cursor{}, false)
		}
	}
}

// cursorAsDefined fails if c is no cursor of a path of the rows l and a function takes it for one, or if it is one and Key does not.
func cursorAsDefined(t *testing.T, arity int, l [][]int, c api.Cursor) bool {
	t.Helper()
	x := trieOf(arity, l)
	for _, path := range paths(arity, l) {
		if sameCursor(c, cursorOf(l, path)) {
			if n := len(path); n > 0 {
				keyIs(t, x, c, path[n-1], true)
			}
			return true
		}
	}
	isNoCursor(t, x, c)
	return false
}

// someRow returns a pseudorandom row. The first columns have few different values, so that rows often begin alike.
func someRow(source *rand.Rand, arity int) []int {
	row := make([]int, arity)
	for i := range row {
		switch source.Intn(8) {
		case 0:
			row[i] = extremes[source.Intn(len(extremes))]
		default:
			row[i] = source.Intn(2 + i)
		}
	}
	return row
}

// someRows returns pseudorandom rows, of which some may be equal.
func someRows(source *rand.Rand, arity int) [][]int {
	var l [][]int
	for range source.Intn(14) {
		if len(l) > 0 && source.Intn(4) == 0 {
			// A row that begins like another one, or is equal to it.
			row := slices.Clone(l[source.Intn(len(l))])
			row[arity-1] = source.Intn(3)
			l = append(l, row)
			continue
		}
		l = append(l, someRow(source, arity))
	}
	return l
}

// disturbed returns a copy of x with a level or one element of one of its lists replaced, exchanged, removed or added.
func disturbed(source *rand.Rand, x api.Trie) api.Trie {
	x = guard(input{trie: x}).trie
	if len(x.Levels) == 0 || source.Intn(12) == 0 {
		x.Levels = changed(source, x.Levels, api.Level{Keys: []int{0}, First: []int{0, 1}})
		return guard(input{trie: x}).trie
	}
	l := &x.Levels[source.Intn(len(x.Levels))]
	if source.Intn(2) == 0 {
		l.Keys = changed(source, l.Keys, someNumber(source, len(l.Keys)))
	} else {
		l.First = changed(source, l.First, someNumber(source, len(l.Keys)))
	}
	return x
}

// someNumber returns an extreme integer or one that may be an index of n elements.
func someNumber(source *rand.Rand, n int) int {
	if source.Intn(4) == 0 {
		return extremes[source.Intn(len(extremes))]
	}
	return source.Intn(n+3) - 1
}

// changed returns l with one element replaced by x, exchanged, removed or added.
func changed[T any](source *rand.Rand, l []T, x T) []T {
	at := source.Intn(len(l) + 1)
	if at == len(l) {
		return append(l, x)
	}
	switch source.Intn(4) {
	case 0:
		l[at] = x
	case 1:
		l[at], l[0] = l[0], l[at]
	case 2:
		return slices.Delete(l, at, at+1)
	case 3:
		return slices.Insert(l, at, x)
	}
	return l
}

// lists calls visit with all lists of at most most elements of l.
func lists[T any](most int, l []T, visit func(l []T)) {
	var longer func(part []T)
	longer = func(part []T) {
		visit(part)
		if len(part) == most {
			return
		}
		for _, x := range l {
			longer(append(slices.Clone(part), x))
		}
	}
	longer(nil)
}

// orders calls visit with l in every order.
func orders[T any](l []T, visit func(l []T)) {
	var extend func(part, rest []T)
	extend = func(part, rest []T) {
		if len(rest) == 0 {
			visit(part)
		}
		for i, x := range rest {
			extend(append(slices.Clone(part), x), slices.Delete(slices.Clone(rest), i, i+1))
		}
	}
	extend(nil, l)
}

// subsets calls visit with the lists of some elements of l, in their order.
func subsets[T any](l []T, visit func(l []T)) {
	for bits := range 1 << len(l) {
		var part []T
		for i, x := range l {
			if bits>>i&1 == 1 {
				part = append(part, x)
			}
		}
		visit(part)
	}
}

// grid returns all rows of that arity with elements from 0 to n-1, in order.
func grid(arity, n int) [][]int {
	l := [][]int{nil}
	for range arity {
		var longer [][]int
		for _, row := range l {
			for key := range n {
				longer = append(longer, append(slices.Clone(row), key))
			}
		}
		l = longer
	}
	return l
}

// many returns n distinct rows of that arity, in order.
func many(arity, n int) [][]int {
	l := make([][]int, n)
	for i := range l {
		row := make([]int, arity)
		for k, rest := arity-1, i; k >= 0; k-- {
			// The first column takes what remains, so that the rows are distinct for every arity.
			if row[k] = rest % 7; k == 0 {
				row[k] = rest
			}
			rest /= 7
		}
		l[i] = row
	}
	return l
}
