package trie_test

import (
	"graphdb/api"
	"graphdb/trie"
	"math"
	"math/rand"
	"slices"
	"testing"
)

// both fails if Build of r is not x or if the rows of x are not those of r.
func both(t *testing.T, r api.Rel, x api.Trie) {
	t.Helper()
	buildIs(t, r, x, api.OK)
	rowsAre(t, x, r.Rows)
}

// P14.1: the chapter's example and the sample.
func TestBuild(t *testing.T) {
	both(t, chapter(), chapterTrie())
	both(t, sample(), sampleTrie())
	both(t, rel(1, "7"), levels("7 | 0 1"))
	both(t, rel(1, "1, 5, 9"), levels("1 5 9 | 0 3"))
	both(t, rel(2, "1 1"), levels("1 | 0 1; 1 | 0 1"))
	// Equal keys with different ones above, and keys that are those of the level above.
	both(t, rel(2, "1 1, 2 1, 3 1"), levels("1 2 3 | 0 3; 1 1 1 | 0 1 2 3"))
	both(t, rel(2, "1 1, 1 2, 2 1, 2 2"), levels("1 2 | 0 2; 1 2 1 2 | 0 2 4"))
	both(t, rel(3, "1 1 1, 1 2 1, 2 1 1"), levels("1 2 | 0 2; 1 2 1 | 0 2 3; 1 1 1 | 0 1 2 3"))
	both(t, rel(3, "1 2 3, 2 2 3"), levels("1 2 | 0 2; 2 2 | 0 1 2; 3 3 | 0 1 2"))
	both(t, rel(3, "1 2 3, 2 2 4"), levels("1 2 | 0 2; 2 2 | 0 1 2; 3 4 | 0 1 2"))
	both(t, rel(8, "1 2 3 4 5 6 7 8, 1 2 3 4 5 6 7 9, 1 2 3 4 5 6 8 0"), levels("1 | 0 1; 2 | 0 1; 3 | 0 1; 4 | 0 1; 5 | 0 1; 6 | 0 1; 7 8 | 0 2; 8 9 0 | 0 2 3"))
}

// P14.1: relations without rows, of every arity.
func TestEmptyTries(t *testing.T) {
	text := "| 0 0"
	for arity := 1; arity <= 8; arity++ {
		for _, l := range [][][]int{nil, {}} {
			both(t, api.Rel{Arity: arity, Rows: l}, levels(text))
		}
		x := levels(text)
		for k := range x.Levels {
			x.Levels[k].Keys = []int{}
		}
		rowsAre(t, x, nil)
		childrenAre(t, x, nil, nil)
		childrenAre(t, x, upTo(arity), nil)
		childrenAre(t, x, []int{0}, nil)
		isAtRoot(t, x)
		stepIs(t, "Down", trie.Down, x, api.Cursor{}, api.Cursor{}, false)
		for _, c := range []api.Cursor{cur("0", "0"), cur("0", "1"), cur("-1", "0"), cur("0 0", "0 0")} {
			isNoCursor(t, x, c)
		}
		text += "; | 0"
	}
	for _, text := range []string{"| 0", "|", "| 0 1", "| 1 1", "| 0 0 0", "| 0 -1", "| 0 0; | 0 0", "| 0 0; |", "| 0 0; | 1", "| 0; | 0", "| 0 0; 1 | 0", "| 0 0; 1 | 1", "| 0 0; 1 | 0 1", "1 | 0 0; | 0", "1 | 0 1; | 0", "1 | 0 1; | 0 0", "| 0 0; | 0; | 0 0", "| 0 0; | 0; 1 | 0"} {
		isRejected(t, "no trie of no rows", levels(text))
	}
}

// P14.1: tries without levels, with 8 and with more.
func TestLevels(t *testing.T) {
	isRejected(t, "no levels", api.Trie{})
	isRejected(t, "no levels", api.Trie{Levels: []api.Level{}})
	for _, n := range []int{8, 9, 10, 64} {
		for _, first := range []api.Level{{First: []int{0, 0}}, {Keys: []int{4}, First: []int{0, 1}}} {
			x := api.Trie{Levels: []api.Level{first}}
			for range n - 1 {
				x.Levels = append(x.Levels, api.Level{Keys: first.Keys, First: upTo(len(first.Keys) + 1)})
			}
			if n > 8 {
				isRejected(t, "too many levels", x)
			} else {
				rowsAre(t, x, slices.Repeat([][]int{{4, 4, 4, 4, 4, 4, 4, 4}}, len(first.Keys)))
			}
		}
	}
	// Parts of the sample, and levels that stand elsewhere.
	l := sampleTrie().Levels
	rowsAre(t, api.Trie{Levels: l[:1]}, rows("-5, 0, 3, 8"))
	rowsAre(t, api.Trie{Levels: l[:2]}, rows("-5 0, -5 2, 0 4, 3 0, 3 1, 3 9, 8 2"))
	for _, part := range [][]api.Level{l[1:], l[2:], {l[0], l[2]}, {l[1], l[0], l[2]}, {l[0], l[2], l[1]}, {l[0], l[0]}, {l[0], l[1], l[1]}, {l[0], l[1], l[2], l[2]}, {l[0], {}, l[2]}, {{}, l[1], l[2]}, {l[0], l[1], {}}} {
		isRejected(t, "another level", api.Trie{Levels: part})
	}
}

// P14.1: Keys and First of each level one element too short or too long, at each place, and much too short or too long.
func TestWrongLengths(t *testing.T) {
	list := func(l []api.Level, k, which int) *[]int {
		return []*[]int{&l[k].Keys, &l[k].First}[which]
	}
	for k := range 3 {
		for which := range 2 {
			n := len(*list(sampleTrie().Levels, k, which))
			for at := range n {
				isRejected(t, "an element too few", sampleWith(func(l []api.Level) {
					x := list(l, k, which)
					*x = slices.Delete(*x, at, at+1)
				}))
				isRejected(t, "the first elements", sampleWith(func(l []api.Level) {
					x := list(l, k, which)
					*x = (*x)[:at]
				}))
			}
			for at := range n + 1 {
				for _, extra := range []int{-5, 0, 1, 3, 100, math.MinInt, math.MaxInt} {
					isRejected(t, "an element too many", sampleWith(func(l []api.Level) {
						x := list(l, k, which)
						*x = slices.Insert(*x, at, extra)
					}))
				}
			}
			isRejected(t, "twice as many", sampleWith(func(l []api.Level) {
				x := list(l, k, which)
				*x = slices.Repeat(*x, 2)
			}))
			isRejected(t, "none", sampleWith(func(l []api.Level) { *list(l, k, which) = nil }))
		}
	}
	// More keys at the end, and First of the level below for these.
	rowsAre(t, levels("1 2 | 0 2; 3 4 | 0 1 2"), rows("1 3, 2 4"))
	isRejected(t, "a key too many, below which First goes on", levels("1 2 | 0 1; 3 4 | 0 1 2"))
	isRejected(t, "a key too few", levels("1 | 0 2; 3 4 | 0 1 2"))
	isRejected(t, "a key too few, for which First goes on", levels("1 | 0 1; 3 4 | 0 1 2"))
	isRejected(t, "First of three", levels("1 2 | 0 1 2; 3 4 | 0 1 2"))
	isRejected(t, "First for one key less", levels("1 2 | 0 2; 3 4 | 0 2"))
}

// P14.1: each element of First replaced by each integer beside the range of its indices, by extreme ones and by those of its neighbours.
func TestWrongFirst(t *testing.T) {
	valid := 0
	tried := append(upTo(15), math.MinInt, math.MinInt+1, -1<<32, -2, -1, 1<<32, 1<<32+1, math.MaxInt-1, math.MaxInt)
	for k := range 3 {
		for at, old := range sampleTrie().Levels[k].First {
			for _, n := range tried {
				x := sampleWith(func(l []api.Level) { l[k].First[at] = n })
				asDefined(t, x)
				if n != old && isTrie(x) {
					valid++
				}
			}
		}
	}
	// A border between two lists of siblings may stand elsewhere only where the keys still increase.
	if valid != 1 {
		t.Errorf("%d other tries have one element of First changed", valid)
	}
	for _, text := range []string{
		"1 2 | 1 2; 3 4 | 0 1 2", "1 2 | 0 1; 3 4 | 0 1 2", "1 2 | 0 3; 3 4 | 0 1 2", "1 2 | -1 2; 3 4 | 0 1 2", "1 2 | 2 0; 3 4 | 0 1 2",
		"1 2 | 0 2; 3 4 | 1 1 2", "1 2 | 0 2; 3 4 | -1 1 2", "1 2 | 0 2; 3 4 | 0 1 1", "1 2 | 0 2; 3 4 | 0 1 3", "1 2 | 0 2; 3 4 | 0 2 1", "1 2 | 0 2; 3 4 | 2 1 0", "1 2 | 0 2; 3 4 | 0 0 0", "1 2 | 0 2; 3 4 | 0 -1 2", "1 2 | 0 2; 3 4 | 0 3 2", "1 2 | 0 2; 3 4 | 0 9 2",
	} {
		isRejected(t, "First that begins, decreases or ends where it should not", levels(text))
	}
	for _, text := range []string{
		"1 2 | 0 2; 3 4 | 0 0 2", "1 2 | 0 2; 3 4 | 0 2 2", "1 2 3 | 0 3; 3 4 | 0 1 1 2", "1 | 0 1; | 0 0", "1 2 | 0 2; | 0 0 0",
		"1 | 0 1; 1 2 | 0 2; 5 | 0 0 1", "1 | 0 1; 1 2 | 0 2; 5 | 0 1 1", "1 2 | 0 2; 5 | 0 0 1; 7 | 0 1", "1 2 | 0 2; 5 | 0 1 1; 7 | 0 1",
	} {
		isRejected(t, "a key without children", levels(text))
	}
	for _, extreme := range []int{math.MinInt, math.MaxInt} {
		isRejected(t, "an extreme border", api.Trie{Levels: []api.Level{{Keys: []int{1, 2}, First: []int{0, 2}}, {Keys: []int{3, 4}, First: []int{0, extreme, 2}}}})
		isRejected(t, "an extreme end", api.Trie{Levels: []api.Level{{Keys: []int{1}, First: []int{0, extreme}}}})
		isRejected(t, "an extreme beginning", api.Trie{Levels: []api.Level{{Keys: []int{1}, First: []int{extreme, 1}}}})
	}
	// The same differences as those of a trie, and differences that would be right if they had more bits.
	isRejected(t, "First from 1 on", levels("1 2 | 1 3; 3 4 | 1 2 3"))
	isRejected(t, "First around the range of int", levels("1 2 | 0 2; 3 4 | 0 9223372036854775807 -9223372036854775808"))
}

// P14.1: siblings that are equal or decreasing, at each place, and keys of different parents that may be.
func TestOrderOfSiblings(t *testing.T) {
	for k, l := range sampleTrie().Levels {
		for at, key := range l.Keys {
			for _, n := range append(slices.Clone(extremes), key-1, key+1, 2, 3, 4, 5, 6, 7, 8, 9, 10) {
				asDefined(t, sampleWith(func(l []api.Level) { l[k].Keys[at] = n }))
			}
			if at > 0 {
				asDefined(t, sampleWith(func(l []api.Level) { l[k].Keys[at] = l[k].Keys[at-1] }))
				asDefined(t, sampleWith(func(l []api.Level) { l[k].Keys[at], l[k].Keys[at-1] = l[k].Keys[at-1], l[k].Keys[at] }))
			}
		}
	}
	for _, text := range []string{
		"1 1 | 0 2", "2 1 | 0 2", "1 2 2 | 0 3", "1 3 2 | 0 3", "2 1 3 | 0 3", "1 2 1 | 0 3",
		"1 1 | 0 2; 3 4 | 0 1 2", "2 1 | 0 2; 3 4 | 0 1 2", "1 2 | 0 2; 3 3 4 | 0 2 3", "1 2 | 0 2; 4 3 4 | 0 2 3", "1 2 | 0 2; 3 4 4 | 0 1 3", "1 2 | 0 2; 3 5 4 | 0 1 3",
	} {
		isRejected(t, "siblings that are not increasing", levels(text))
	}
	rowsAre(t, levels("1 2 | 0 2; 3 3 | 0 1 2"), rows("1 3, 2 3"))
	rowsAre(t, levels("1 2 | 0 2; 4 3 | 0 1 2"), rows("1 4, 2 3"))
	rowsAre(t, levels("1 2 | 0 2; 3 4 3 4 | 0 2 4"), rows("1 3, 1 4, 2 3, 2 4"))
	isRejected(t, "equal keys below one key", levels("1 2 | 0 2; 3 4 3 4 | 0 3 4"))
	x := api.Trie{Levels: []api.Level{{Keys: []int{math.MinInt, math.MaxInt}, First: []int{0, 2}}, {Keys: []int{math.MaxInt, math.MinInt}, First: []int{0, 1, 2}}}}
	rowsAre(t, x, [][]int{{math.MinInt, math.MaxInt}, {math.MaxInt, math.MinInt}})
	slices.Reverse(x.Levels[0].Keys)
	isRejected(t, "the greatest integer before the least one", x)
}

// P14.1: tries with MaxRows rows and with one more, however many keys the levels above have.
func TestLargeTries(t *testing.T) {
	for _, arity := range []int{1, 2, 8} {
		l := many(arity, 20001)
		most := api.Rel{Arity: arity, Rows: l[:20000]}
		x, err := trie.Build(most)
		if err != api.OK {
			t.Fatalf("Build of 20000 rows: %d", err)
		}
		rowsAre(t, x, l[:20000])
		last := x.Levels[arity-1]
		if len(last.Keys) != 20000 || last.First[len(last.First)-1] != 20000 {
			t.Errorf("the last level is %s", brief(last))
		}
		buildIs(t, api.Rel{Arity: arity, Rows: l}, api.Trie{}, api.ErrLong)
		// One more key behind the last one. It is greater than its siblings.
		last.Keys = append(last.Keys, 30000)
		last.First[len(last.First)-1]++
		x.Levels[arity-1] = last
		isRejected(t, "a row too many", x)
	}
	wide := api.Level{Keys: upTo(20001), First: []int{0, 20001}}
	isRejected(t, "too many keys in each level", api.Trie{Levels: []api.Level{wide, {Keys: upTo(20001), First: upTo(20002)}}})
	isRejected(t, "too many keys above", api.Trie{Levels: []api.Level{wide, {Keys: upTo(20000), First: upTo(20001)}}})
	isRejected(t, "too many keys above, some without children", api.Trie{Levels: []api.Level{wide, {Keys: upTo(20000), First: append(upTo(20001), 20000)}}})
	isRejected(t, "too many keys below one", api.Trie{Levels: []api.Level{{Keys: []int{1}, First: []int{0, 1}}, wide}})
	rowsAre(t, api.Trie{Levels: []api.Level{{Keys: []int{1}, First: []int{0, 1}}, {Keys: upTo(20000), First: []int{0, 20000}}}}, rowsBelow(1, 20000))
}

// rowsBelow returns n rows of the key and an integer from 0 to n-1.
func rowsBelow(key, n int) [][]int {
	var l [][]int
	for i := range n {
		l = append(l, []int{key, i})
	}
	return l
}

// P14.1: all tries with one or two levels of few small keys and borders, by the definition.
func TestSmallTries(t *testing.T) {
	var above []api.Level
	valid, invalid := 0, 0
	test := func(x api.Trie) {
		if !isTrie(x) {
			invalid++
			if trie.Valid(x) || trie.Rows(x) != nil {
				t.Errorf("Valid(%v) = true", x)
			}
			return
		}
		valid++
		asDefined(t, x)
	}
	lists(2, []int{0, 1}, func(keys []int) {
		lists(3, []int{0, 1, 2}, func(first []int) {
			above = append(above, api.Level{Keys: keys, First: first})
		})
	})
	for _, l := range above {
		test(api.Trie{Levels: []api.Level{l}})
	}
	if valid != 4 {
		t.Errorf("%d tries with one level", valid)
	}
	lists(3, []int{0, 1}, func(keys []int) {
		lists(3, []int{-1, 0, 1, 2, 3}, func(first []int) {
			for _, l := range above {
				test(api.Trie{Levels: []api.Level{l, {Keys: keys, First: first}}})
			}
		})
	})
	// The relations of one column with at most two keys, and of two columns with at most three rows.
	if valid != 4+15 || invalid < 500000 {
		t.Errorf("%d tries are valid, and %d are not", valid, invalid)
	}
}

// P14.1, P14.2: pseudorandom relations, and their tries, as they are and disturbed, by the definitions.
func TestAnyTrie(t *testing.T) {
	source := rand.New(rand.NewSource(143))
	valid := 0
	for i := range 12000 {
		arity := source.Intn(8) + 1
		l := distinct(someRows(source, arity))
		x := trieOf(arity, l)
		both(t, api.Rel{Arity: arity, Rows: l}, x)
		for range i % 3 {
			x = disturbed(source, x)
		}
		if isTrie(x) {
			valid++
		}
		asDefined(t, x)
	}
	if valid < 4500 || valid > 8000 {
		t.Errorf("%d of 12000 tries are valid", valid)
	}
}
