package trie_test

import (
	"graphdb/api"
	"graphdb/trie"
	"math"
	"math/rand"
	"slices"
	"testing"
)

// P14.1: the chapter's example, and every path of the sample.
func TestChildren(t *testing.T) {
	for prefix, want := range map[string]string{"": "1 2", "1": "3 5", "2": "1", "3": "", "0": "", "1 3": "", "1 5": "", "2 1": "", "1 4": ""} {
		childrenAre(t, chapterTrie(), numbers(prefix), numbers(want))
	}
	for prefix, want := range map[string]string{
		"": "-5 0 3 8", "-5": "0 2", "0": "4", "3": "0 1 9", "8": "2",
		"-5 0": "7", "-5 2": "1 3 9", "0 4": "4", "3 0": "0 8", "3 1": "2 5 6", "3 9": "-1", "8 2": "2",
	} {
		childrenAre(t, sampleTrie(), numbers(prefix), numbers(want))
	}
	childrenAre(t, sampleTrie(), []int{}, numbers("-5 0 3 8"))
}

// P14.1: paths that do not exist, because of their first, second or last key, among them those whose keys exist below other ones.
func TestNoPath(t *testing.T) {
	for _, prefix := range []string{
		"-6", "-4", "-1", "1", "2", "4", "7", "9", "-5 -1", "-5 1", "-5 3", "-5 4", "-5 9", "0 0", "0 2", "0 3", "0 5", "3 -1", "3 2", "3 8", "3 10", "8 0", "8 1", "8 3", "8 9",
		"1 0", "9 2", "-6 0", "4 1", "2 4",
	} {
		childrenAre(t, sampleTrie(), numbers(prefix), nil)
	}
	for _, n := range extremes {
		if n != 0 {
			childrenAre(t, sampleTrie(), []int{n}, nil)
			childrenAre(t, sampleTrie(), []int{n, 2}, nil)
			childrenAre(t, sampleTrie(), []int{8, n}, nil)
		}
	}
	// Indices of keys are no keys.
	childrenAre(t, levels("10 20 | 0 2; 30 40 | 0 1 2; 50 60 | 0 1 2"), numbers("0"), nil)
	childrenAre(t, levels("10 20 | 0 2; 30 40 | 0 1 2; 50 60 | 0 1 2"), numbers("10 40"), nil)
	childrenAre(t, levels("10 20 | 0 2; 30 40 | 0 1 2; 50 60 | 0 1 2"), numbers("20 40"), numbers("60"))
}

// P14.1: prefixes of as many elements as there are levels and more, one less, and none, for every arity.
func TestLongPrefixes(t *testing.T) {
	for arity := 1; arity <= 8; arity++ {
		l := many(arity, 60)
		x := trieOf(arity, l)
		for _, row := range l {
			for n := range arity {
				childrenAre(t, x, row[:n], childrenOf(l, row[:n]))
			}
			childrenAre(t, x, row, nil)
			childrenAre(t, x, append(slices.Clone(row), 0), nil)
			childrenAre(t, x, slices.Repeat(row, 9), nil)
		}
		childrenAre(t, x, make([]int, 100), nil)
	}
	childrenAre(t, sampleTrie(), numbers("0 4 4"), nil)
	childrenAre(t, sampleTrie(), numbers("0 4 4 4"), nil)
	childrenAre(t, sampleTrie(), numbers("0 4 9"), nil)
}

// P14.1: keys at the ends of the range of int.
func TestExtremeChildren(t *testing.T) {
	single, pairs := extremeRows()
	childrenAre(t, trieOf(1, single), nil, extremes)
	childrenAre(t, trieOf(2, pairs), nil, extremes)
	for _, a := range extremes {
		childrenAre(t, trieOf(2, pairs), []int{a}, extremes)
		childrenAre(t, trieOf(2, [][]int{{a, math.MinInt}, {a, math.MaxInt}}), []int{a}, []int{math.MinInt, math.MaxInt})
	}
	childrenAre(t, trieOf(2, [][]int{{math.MinInt, 1}, {math.MaxInt, 2}}), []int{math.MinInt}, []int{1})
	childrenAre(t, trieOf(2, [][]int{{math.MinInt, 1}, {math.MaxInt, 2}}), []int{math.MaxInt}, []int{2})
	childrenAre(t, trieOf(2, [][]int{{math.MinInt, 1}, {math.MaxInt, 2}}), []int{0}, nil)
}

// P14.1: a trie that is not valid has no children, not even below a path that it has.
func TestChildrenOfInvalid(t *testing.T) {
	for _, x := range []api.Trie{{}, levels("1 2 | 0 2; 3 4 | 0 1 3"), levels("1 2 | 0 2; 4 3 9 | 0 2 3"), levels("1 2 | 0 2; 3 | 0 1 1"), levels("1 2 | 0 2; 3 4 | 0 1 2; 5 | 0 1 2")} {
		for _, prefix := range []string{"", "0", "1", "2", "3", "1 3", "2 4", "1 3 5"} {
			childrenAre(t, x, numbers(prefix), nil)
		}
	}
}

// P14.1: all prefixes of small elements in all relations of two columns, and pseudorandom prefixes in pseudorandom tries, by the definition.
func TestAnyChildren(t *testing.T) {
	subsets(grid(2, 3), func(l [][]int) {
		x := trieOf(2, l)
		lists(2, []int{-1, 0, 1, 2, 3}, func(prefix []int) {
			if got := trie.Children(x, prefix); !slices.Equal(got, childrenOf(l, prefix)) {
				t.Errorf("Children(%v, %v) = %v", x, prefix, got)
			}
		})
	})
	source := rand.New(rand.NewSource(144))
	for range 3000 {
		arity := source.Intn(8) + 1
		l := distinct(someRows(source, arity))
		x := trieOf(arity, l)
		for range 4 {
			prefix := someRow(source, arity)[:source.Intn(arity+1)]
			if len(l) > 0 && source.Intn(2) == 0 {
				prefix = changed(source, slices.Clone(l[source.Intn(len(l))][:len(prefix)]), source.Intn(3))
			}
			childrenAre(t, x, prefix, childrenOf(l, prefix))
		}
	}
}
