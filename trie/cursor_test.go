package trie_test

import (
	"graphdb/api"
	"graphdb/trie"
	"math"
	"math/rand"
	"slices"
	"testing"
)

// P14.1: the root is the cursor without open levels, each time a new one.
func TestRoot(t *testing.T) {
	first := trie.Root()
	if !sameCursor(first, api.Cursor{}) {
		t.Errorf("Root() = %v", first)
	}
	spoil(t, append(first.At, 1), append(first.End, 1))
	if again := trie.Root(); !sameCursor(again, api.Cursor{}) {
		t.Errorf("Root() = %v", again)
	}
}

// P14.1: the chapter's example.
func TestCursorExample(t *testing.T) {
	x := chapterTrie()
	stepIs(t, "Down", trie.Down, x, trie.Root(), cur("0", "2"), true)
	keyIs(t, x, cur("0", "2"), 1, true)
	stepIs(t, "Down", trie.Down, x, cur("0", "2"), cur("0 0", "2 2"), true)
	keyIs(t, x, cur("0 0", "2 2"), 3, true)
	stepIs(t, "Seek", seek(4), x, cur("0 0", "2 2"), cur("0 1", "2 2"), true)
	keyIs(t, x, cur("0 1", "2 2"), 5, true)
	stepIs(t, "Up", trie.Up, x, cur("0 1", "2 2"), cur("0", "2"), true)
	stepIs(t, "Next", trie.Next, x, cur("0", "2"), cur("1", "2"), true)
	keyIs(t, x, cur("1", "2"), 2, true)
	// The indices are those of the level, not those among the siblings.
	stepIs(t, "Down", trie.Down, x, cur("1", "2"), cur("1 2", "2 3"), true)
	keyIs(t, x, cur("1 2", "2 3"), 1, true)
	stepIs(t, "Next", trie.Next, x, cur("1 2", "2 3"), api.Cursor{}, false)
	stepIs(t, "Down", trie.Down, x, cur("1 2", "2 3"), api.Cursor{}, false)
	stepIs(t, "Up", trie.Up, x, cur("1 2", "2 3"), cur("1", "2"), true)
	stepIs(t, "Up", trie.Up, x, cur("1", "2"), api.Cursor{}, true)
}

// P14.1: every step from every position of the sample.
func TestSteps(t *testing.T) {
	x := sampleTrie()
	for _, c := range []struct {
		at, end, key, down, downEnd, next string
	}{
		{"0", "4", "-5", "0 0", "4 2", "1"},
		{"1", "4", "0", "1 2", "4 3", "2"},
		{"2", "4", "3", "2 3", "4 6", "3"},
		{"3", "4", "8", "3 6", "4 7", ""},
		{"0 0", "4 2", "0", "0 0 0", "4 2 1", "0 1"},
		{"0 1", "4 2", "2", "0 1 1", "4 2 4", ""},
		{"1 2", "4 3", "4", "1 2 4", "4 3 5", ""},
		{"2 3", "4 6", "0", "2 3 5", "4 6 7", "2 4"},
		{"2 4", "4 6", "1", "2 4 7", "4 6 10", "2 5"},
		{"2 5", "4 6", "9", "2 5 10", "4 6 11", ""},
		{"3 6", "4 7", "2", "3 6 11", "4 7 12", ""},
		{"0 0 0", "4 2 1", "7", "", "", ""},
		{"0 1 1", "4 2 4", "1", "", "", "0 1 2"},
		{"0 1 2", "4 2 4", "3", "", "", "0 1 3"},
		{"0 1 3", "4 2 4", "9", "", "", ""},
		{"1 2 4", "4 3 5", "4", "", "", ""},
		{"2 3 5", "4 6 7", "0", "", "", "2 3 6"},
		{"2 3 6", "4 6 7", "8", "", "", ""},
		{"2 4 7", "4 6 10", "2", "", "", "2 4 8"},
		{"2 4 8", "4 6 10", "5", "", "", "2 4 9"},
		{"2 4 9", "4 6 10", "6", "", "", ""},
		{"2 5 10", "4 6 11", "-1", "", "", ""},
		{"3 6 11", "4 7 12", "2", "", "", ""},
	} {
		here := cur(c.at, c.end)
		keyIs(t, x, here, numbers(c.key)[0], true)
		stepIs(t, "Down", trie.Down, x, here, cur(c.down, c.downEnd), c.down != "")
		next, n := cur(c.next, c.end), len(here.At)-1
		if c.next == "" {
			next = api.Cursor{}
		}
		stepIs(t, "Next", trie.Next, x, here, next, c.next != "")
		stepIs(t, "Up", trie.Up, x, here, api.Cursor{At: here.At[:n], End: here.End[:n]}, true)
		stepIs(t, "Seek", seek(numbers(c.key)[0]), x, here, here, true)
	}
	stepIs(t, "Down", trie.Down, x, api.Cursor{}, cur("0", "4"), true)
	isAtRoot(t, x)
}

// P14.1: Seek with keys below the first one, between two, equal to one, behind the last one, and below the current one, from the first, a middle and the last sibling.
func TestSeek(t *testing.T) {
	x := levels("7 | 0 1; 10 20 30 40 50 | 0 5")
	for _, c := range []struct{ at, sought, want int }{
		{0, math.MinInt, 0}, {0, -1, 0}, {0, 9, 0}, {0, 10, 0}, {0, 11, 1}, {0, 19, 1}, {0, 20, 1}, {0, 21, 2}, {0, 30, 2}, {0, 39, 3}, {0, 40, 3}, {0, 45, 4}, {0, 50, 4}, {0, 51, -1}, {0, math.MaxInt, -1},
		{2, math.MinInt, 2}, {2, 5, 2}, {2, 10, 2}, {2, 15, 2}, {2, 20, 2}, {2, 29, 2}, {2, 30, 2}, {2, 31, 3}, {2, 40, 3}, {2, 41, 4}, {2, 50, 4}, {2, 51, -1}, {2, math.MaxInt, -1},
		{4, math.MinInt, 4}, {4, 10, 4}, {4, 45, 4}, {4, 50, 4}, {4, 51, -1}, {4, math.MaxInt, -1},
	} {
		here := api.Cursor{At: []int{0, c.at}, End: []int{1, 5}}
		if c.want < 0 {
			stepIs(t, "Seek", seek(c.sought), x, here, api.Cursor{}, false)
		} else {
			stepIs(t, "Seek", seek(c.sought), x, here, api.Cursor{At: []int{0, c.want}, End: []int{1, 5}}, true)
		}
	}
	// It does not leave the siblings, although greater keys follow below other keys.
	stepIs(t, "Seek", seek(4), sampleTrie(), cur("0 0", "4 2"), api.Cursor{}, false)
	stepIs(t, "Seek", seek(2), sampleTrie(), cur("0 0", "4 2"), cur("0 1", "4 2"), true)
	stepIs(t, "Seek", seek(10), sampleTrie(), cur("0 1 1", "4 2 4"), api.Cursor{}, false)
	stepIs(t, "Seek", seek(4), sampleTrie(), cur("0 1 1", "4 2 4"), cur("0 1 3", "4 2 4"), true)
	stepIs(t, "Seek", seek(1), sampleTrie(), cur("0", "4"), cur("2", "4"), true)
	stepIs(t, "Seek", seek(9), sampleTrie(), cur("0", "4"), api.Cursor{}, false)
	wide := api.Trie{Levels: []api.Level{{Keys: extremes, First: []int{0, len(extremes)}}}}
	for at := range extremes {
		for to, n := range extremes {
			stepIs(t, "Seek", seek(n), wide, api.Cursor{At: []int{at}, End: []int{9}}, api.Cursor{At: []int{max(at, to)}, End: []int{9}}, true)
		}
	}
}

// P14.1: cursors whose At and End have different lengths, and cursors with more open levels than there are levels.
func TestCursorLengths(t *testing.T) {
	for _, c := range []api.Cursor{
		cur("0", ""), cur("", "4"), cur("", "0"), cur("0 0", "4"), cur("0", "4 2"), cur("0 0 0", "4 2"), cur("0 0", "4 2 1"), cur("0 0 0", ""), cur("", "4 2 1"),
		cur("0 0 0 0", "4 2 1 1"), cur("0 0 0 0", "4 2 1 0"), cur("0 0 0 0", "4 2 1"), cur("0 0 0", "4 2 1 1"), cur("0 0 0 0 0 0 0 0 0", "4 2 1 1 1 1 1 1 1"),
	} {
		isNoCursor(t, sampleTrie(), c)
	}
	for arity := 1; arity <= 8; arity++ {
		x := trieOf(arity, [][]int{make([]int, arity)})
		c := api.Cursor{}
		for range arity {
			next := api.Cursor{At: append(slices.Clone(c.At), 0), End: append(slices.Clone(c.End), 1)}
			stepIs(t, "Down", trie.Down, x, c, next, true)
			c = next
			isNoCursor(t, x, api.Cursor{At: c.At, End: c.End[1:]})
			isNoCursor(t, x, api.Cursor{At: c.At[1:], End: c.End})
		}
		stepIs(t, "Down", trie.Down, x, c, api.Cursor{}, false)
		isNoCursor(t, x, api.Cursor{At: append(c.At, 0), End: append(c.End, 1)})
	}
}

// P14.1: At that is the index of no sibling, End that is not where the siblings end, and negative ones, in each level.
func TestCursorIndices(t *testing.T) {
	for _, path := range paths(3, sample().Rows) {
		good := cursorOf(sample().Rows, path)
		for k := range path {
			for n := -2; n < 15; n++ {
				c := api.Cursor{At: slices.Clone(good.At), End: slices.Clone(good.End)}
				c.At[k] = n
				cursorAsDefined(t, 3, sample().Rows, c)
				c = api.Cursor{At: slices.Clone(good.At), End: slices.Clone(good.End)}
				if c.End[k] = n; n != good.End[k] {
					isNoCursor(t, sampleTrie(), c)
				}
			}
			for _, n := range []int{math.MinInt, math.MinInt + 1, -1 << 32, 1<<32 + good.At[k], 1<<32 + good.End[k], math.MaxInt - 1, math.MaxInt} {
				c := api.Cursor{At: slices.Clone(good.At), End: slices.Clone(good.End)}
				c.At[k] = n
				isNoCursor(t, sampleTrie(), c)
				c.End[k] = n
				isNoCursor(t, sampleTrie(), c)
				c.At[k] = good.At[k]
				isNoCursor(t, sampleTrie(), c)
			}
		}
	}
	for _, c := range []api.Cursor{
		cur("4", "4"), cur("-1", "4"), cur("0", "3"), cur("0", "5"), cur("0", "0"), cur("0", "-4"), cur("0", "1"),
		// Siblings of another key, and indices among the siblings instead of in the level.
		cur("0 2", "4 3"), cur("1 0", "4 2"), cur("1 1", "4 2"), cur("1 0", "4 1"), cur("2 2", "4 6"), cur("2 6", "4 7"), cur("2 0", "4 3"), cur("2 3", "4 7"), cur("1 2", "4 2"), cur("1 3", "4 3"),
		cur("2 4 7", "4 6 12"), cur("2 4 6", "4 6 10"), cur("2 4 10", "4 6 10"), cur("2 4 10", "4 6 11"), cur("2 4 0", "4 6 3"),
		// The deepest level is right, the ones above are not.
		cur("1 0", "4 2"), cur("5 3", "4 6"), cur("2 3", "3 6"), cur("2 6 11", "4 7 12"), cur("3 6 11", "4 6 12"), cur("3 6 11", "3 7 12"), cur("-1 6 11", "4 7 12"),
	} {
		isNoCursor(t, sampleTrie(), c)
	}
}

// P14.1: all cursors with at most two open levels of small numbers in a few tries, by the definition.
func TestSmallCursors(t *testing.T) {
	numbers := []int{-1, 0, 1, 2, 3, 4}
	for _, r := range []api.Rel{{Arity: 1}, {Arity: 2}, rel(1, "0, 1"), rel(1, "5"), chapter(), rel(2, "0 0"), rel(2, "0 0, 1 0, 1 1"), rel(3, "0 0 0, 0 1 1, 1 0 0")} {
		positions := paths(r.Arity, r.Rows)
		valid := 0
		lists(2, numbers, func(at []int) {
			lists(2, numbers, func(end []int) {
				if cursorAsDefined(t, r.Arity, r.Rows, api.Cursor{At: at, End: end}) {
					valid++
				}
			})
		})
		want := 0
		for _, path := range positions {
			if len(path) <= 2 {
				want++
			}
		}
		if valid != want {
			t.Errorf("%d cursors are valid for %v, want %d", valid, r, want)
		}
	}
}

// P14.1: every step from every position of all relations of two columns with elements up to 2, and of three columns with elements up to 1.
func TestSmallSteps(t *testing.T) {
	subsets(grid(2, 3), func(l [][]int) { stepsAsDefined(t, 2, l) })
	subsets(grid(3, 2), func(l [][]int) { stepsAsDefined(t, 3, l) })
}

// P14.1: every step from every position of the samples and of pseudorandom relations of every arity, by the definitions.
func TestAnyStep(t *testing.T) {
	stepsAsDefined(t, 2, chapter().Rows)
	stepsAsDefined(t, 3, sample().Rows)
	source := rand.New(rand.NewSource(145))
	for i := range 250 {
		arity := i%8 + 1
		stepsAsDefined(t, arity, distinct(someRows(source, arity)))
	}
}

// P14.1: pseudorandom cursors, most of them almost valid, by the definition.
func TestAnyCursor(t *testing.T) {
	source := rand.New(rand.NewSource(146))
	valid := 0
	for i := range 4000 {
		arity := source.Intn(8) + 1
		l := distinct(someRows(source, arity))
		all := paths(arity, l)
		c := guard(input{cursor: cursorOf(l, all[source.Intn(len(all))])}).cursor
		for range i % 3 {
			if source.Intn(2) == 0 {
				c.At = changed(source, c.At, someNumber(source, len(l)))
			} else {
				c.End = changed(source, c.End, someNumber(source, len(l)))
			}
		}
		if cursorAsDefined(t, arity, l, c) {
			valid++
		}
	}
	if valid < 1300 || valid > 3000 {
		t.Errorf("%d of 4000 cursors are valid", valid)
	}
}

// P14.1: cursors that would be right, in tries that are not valid.
func TestCursorsOfInvalid(t *testing.T) {
	for _, text := range []string{"1 2 | 0 2; 3 5 1 | 0 2 4", "1 2 | 0 2; 5 3 1 | 0 2 3", "2 1 | 0 2; 3 5 1 | 0 2 3", "1 2 | 0 2; 3 5 1 | 0 2 3; 1 | 0 1", "1 2 | 0 2; 3 5 1 | 0 2 3 3", "1 2 | 0 2; 3 5 1 | 1 2 3"} {
		for _, path := range paths(2, chapter().Rows) {
			isNoCursor(t, levels(text), cursorOf(chapter().Rows, path))
		}
	}
	for _, x := range []api.Trie{{}, {Levels: make([]api.Level, 9)}, {Levels: make([]api.Level, 1)}} {
		for _, c := range []api.Cursor{{}, cur("0", "0"), cur("0", "1"), cur("0 0", "1 1")} {
			isNoCursor(t, x, c)
		}
	}
}

// P14.1: cursors in a trie of MaxRows rows.
func TestLargeSteps(t *testing.T) {
	x := trieOfMany()
	stepIs(t, "Down", trie.Down, x, api.Cursor{}, cur("0", "200"), true)
	stepIs(t, "Next", trie.Next, x, cur("0", "200"), cur("1", "200"), true)
	stepIs(t, "Seek", seek(199), x, cur("0", "200"), cur("199", "200"), true)
	stepIs(t, "Seek", seek(200), x, cur("0", "200"), api.Cursor{}, false)
	stepIs(t, "Down", trie.Down, x, cur("199", "200"), cur("199 19900", "200 20000"), true)
	stepIs(t, "Seek", seek(99), x, cur("199 19900", "200 20000"), cur("199 19999", "200 20000"), true)
	stepIs(t, "Next", trie.Next, x, cur("199 19998", "200 20000"), cur("199 19999", "200 20000"), true)
	stepIs(t, "Next", trie.Next, x, cur("199 19999", "200 20000"), api.Cursor{}, false)
	stepIs(t, "Up", trie.Up, x, cur("199 19999", "200 20000"), cur("199", "200"), true)
	keyIs(t, x, cur("150 15042", "200 15100"), 42, true)
	isNoCursor(t, x, cur("150 15042", "200 20000"))
	isNoCursor(t, x, cur("150 15100", "200 15200"))
	isNoCursor(t, x, cur("199 20000", "200 20000"))
}

// trieOfMany returns the trie of the 20000 rows of an integer below 200 and one below 100.
func trieOfMany() api.Trie {
	x := api.Trie{Levels: []api.Level{{Keys: upTo(200), First: []int{0, 200}}, {}}}
	for i := range 201 {
		x.Levels[1].First = append(x.Levels[1].First, 100*i)
	}
	x.Levels[1].Keys = slices.Repeat(upTo(100), 200)
	return x
}
