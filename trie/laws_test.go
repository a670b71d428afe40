package trie_test

import (
	"fmt"
	"graphdb/api"
	"graphdb/trie"
	"math"
	"math/rand"
	"slices"
	"testing"
)

// relations calls visit with all relations of one column with elements up to 4, of two with elements up to 2, of three with elements up to 1, some of which have the same rows as others but for their columns, and with pseudorandom ones of every arity.
func relations(visit func(r api.Rel)) {
	for arity := 1; arity <= 8; arity++ {
		visit(api.Rel{Arity: arity})
		for key := range 3 {
			visit(api.Rel{Arity: arity, Rows: [][]int{slices.Repeat([]int{key + 9}, arity)}})
		}
	}
	for _, all := range [][][]int{grid(1, 5), grid(2, 3), grid(3, 2)} {
		subsets(all, func(l [][]int) {
			if len(l) > 0 {
				visit(api.Rel{Arity: len(l[0]), Rows: l})
			}
		})
	}
	source := rand.New(rand.NewSource(147))
	for range 1500 {
		arity := source.Intn(8) + 1
		if l := distinct(someRows(source, arity)); len(l) > 2 {
			visit(api.Rel{Arity: arity, Rows: l})
		}
	}
}

// P14.2: the rows of the trie of a relation are those of the relation, and they make the same relation and the same trie again.
func TestRowsOfBuild(t *testing.T) {
	relations(func(r api.Rel) {
		x, err := trie.Build(r)
		if err != api.OK || !trie.Valid(x) {
			t.Errorf("Build(%v) = %v, %d", r, x, err)
		}
		l := trie.Rows(x)
		if !sameRows(l, r.Rows) {
			t.Errorf("Rows(Build(%v)) = %v", r, l)
		}
		again, err := trie.Of(len(x.Levels), shuffled(l))
		if err != api.OK || again.Arity != r.Arity || !sameRows(again.Rows, r.Rows) {
			t.Errorf("Of(Rows(Build(%v))) = %v, %d", r, again, err)
		}
		y, err := trie.Build(again)
		if err != api.OK || !sameTrie(x, y) {
			t.Errorf("Build(Of(Rows(%v))) = %v, %d", x, y, err)
		}
	})
	for _, arity := range []int{1, 2, 8} {
		r := api.Rel{Arity: arity, Rows: many(arity, 20000)}
		if x, err := trie.Build(r); err != api.OK || !sameRows(trie.Rows(x), r.Rows) {
			t.Errorf("the rows of Build of 20000 rows are %s, %d", brief(trie.Rows(x)), err)
		}
	}
}

// P14.2: two relations that are not equal have tries that are not equal.
func TestBuildIsInjective(t *testing.T) {
	relationOf := map[string]string{}
	relations(func(r api.Rel) {
		x, _ := trie.Build(r)
		// Nil and empty slices have the same text.
		one, other := fmt.Sprint(r), fmt.Sprint(x)
		if known, found := relationOf[other]; found && known != one {
			t.Errorf("%s and %s have the same trie %s", known, one, other)
		}
		relationOf[other] = one
	})
	if len(relationOf) < 1500 {
		t.Errorf("there are only %d different tries", len(relationOf))
	}
}

// inverse returns the order that leads back from order.
func inverse(order []int) []int {
	back := make([]int, len(order))
	for i, column := range order {
		back[column] = i
	}
	return back
}

// P14.2: Permute by an order and then by its inverse is the identity, and so is the other way round.
func TestPermuteAndBack(t *testing.T) {
	source := rand.New(rand.NewSource(148))
	backIs := func(r api.Rel, order []int) {
		for _, pair := range [][2][]int{{order, inverse(order)}, {inverse(order), order}} {
			p, err := trie.Permute(r, pair[0])
			if err != api.OK || trie.Check(p) != api.OK || len(p.Rows) != len(r.Rows) {
				t.Errorf("Permute(%s, %v) = %s, %d", brief(r), pair[0], brief(p), err)
			}
			again, err := trie.Permute(p, pair[1])
			if err != api.OK || again.Arity != r.Arity || !sameRows(again.Rows, r.Rows) {
				t.Errorf("Permute(%s, %v) = %s, %d", brief(p), pair[1], brief(again), err)
			}
		}
	}
	relations(func(r api.Rel) {
		if r.Arity <= 3 && len(r.Rows) < 6 {
			orders(upTo(r.Arity), func(order []int) { backIs(r, order) })
		} else {
			backIs(r, source.Perm(r.Arity))
		}
	})
	orders(upTo(4), func(order []int) { backIs(api.Rel{Arity: 4, Rows: grid(4, 2)[3:14]}, order) })
	backIs(api.Rel{Arity: 8, Rows: many(8, 20000)}, numbers("7 2 5 0 1 3 6 4"))
}

// walked returns the rows at all positions with all levels open, in the order of a walk from the root by Down, Next and Up, and how many positions there are.
func walked(t *testing.T, x api.Trie) ([][]int, int) {
	t.Helper()
	var l [][]int
	positions := 1
	var row []int
	c, ok := trie.Down(x, trie.Root())
	for ok && len(c.At) > 0 {
		key, _ := trie.Key(x, c)
		row = append(row[:len(c.At)-1], key)
		positions++
		down, below := trie.Down(x, c)
		if below {
			c = down
			continue
		}
		l = append(l, slices.Clone(row))
		// The next sibling of this key, or of the nearest one above that has one.
		for len(c.At) > 0 {
			next, is := trie.Next(x, c)
			if is {
				c = next
				break
			}
			if c, ok = trie.Up(x, c); !ok {
				t.Fatalf("no way up from %v", c)
			}
		}
	}
	return l, positions
}

// P14.3: a walk over all positions by Down, Next and Up visits the rows of the relation in order, and as many positions as rows have beginnings.
func TestWalk(t *testing.T) {
	relations(func(r api.Rel) {
		x, _ := trie.Build(r)
		l, positions := walked(t, x)
		if !sameRows(l, r.Rows) || positions != len(paths(r.Arity, r.Rows)) {
			t.Errorf("a walk over %v visits %v at %d positions", r, l, positions)
		}
	})
	large := api.Rel{Arity: 3, Rows: many(3, 900)}
	x, _ := trie.Build(large)
	if l, _ := walked(t, x); !sameRows(l, large.Rows) {
		t.Errorf("a walk over %s visits %s", brief(large), brief(l))
	}
}

// positionsOf returns the cursors of all positions of x, as they are found by Down and Next.
func positionsOf(x api.Trie) []api.Cursor {
	l := []api.Cursor{trie.Root()}
	for i := 0; i < len(l); i++ {
		c, ok := trie.Down(x, l[i])
		for ok {
			l = append(l, c)
			c, ok = trie.Next(x, c)
		}
	}
	return l
}

// nextUntil returns the cursor to which Next leads from c until the key is at least n, and false if it never is.
func nextUntil(x api.Trie, c api.Cursor, n int) (api.Cursor, bool) {
	for {
		key, ok := trie.Key(x, c)
		if !ok {
			return api.Cursor{}, false
		}
		if key >= n {
			return c, true
		}
		c, _ = trie.Next(x, c)
	}
}

// P14.3: Seek is the result of applying Next until the key is at least the one that is sought, at every position, and Up leads back to where Down was.
func TestSeekIsNext(t *testing.T) {
	relations(func(r api.Rel) {
		x, _ := trie.Build(r)
		positions := positionsOf(x)
		if len(positions) != len(paths(r.Arity, r.Rows)) {
			t.Errorf("%d positions of %v", len(positions), r)
		}
		for _, c := range positions {
			for _, n := range []int{math.MinInt, -1, 0, 1, 2, 3, 4, 9, 10, math.MaxInt} {
				got, ok := trie.Seek(x, c, n)
				want, is := nextUntil(x, c, n)
				if ok != is || !sameCursor(got, want) {
					t.Errorf("Seek(%v, %v, %d) = %v, %v, want %v, %v", x, c, n, got, ok, want, is)
				}
			}
			if down, ok := trie.Down(x, c); ok {
				if up, is := trie.Up(x, down); !is || !sameCursor(up, c) {
					t.Errorf("Up(%v, %v) = %v, %v", x, down, up, is)
				}
			}
		}
	})
}

// P14.1, R4: calls with equal arguments return equal results, even if what the first one returned has been changed.
func TestCallsAreApart(t *testing.T) {
	r, x, c := sample(), sampleTrie(), cur("2 4", "4 6")
	type results struct {
		of, permuted                   api.Rel
		built                          api.Trie
		rows                           [][]int
		children                       []int
		root, down, up, next, searched api.Cursor
	}
	call := func() results {
		var s results
		s.of, _ = trie.Of(3, r.Rows)
		s.permuted, _ = trie.Permute(r, numbers("2 0 1"))
		s.built, _ = trie.Build(r)
		s.rows, s.children = trie.Rows(x), trie.Children(x, numbers("3 1"))
		s.root = trie.Root()
		s.down, _ = trie.Down(x, c)
		s.up, _ = trie.Up(x, c)
		s.next, _ = trie.Next(x, c)
		s.searched, _ = trie.Seek(x, c, 5)
		return s
	}
	first, kept := call(), fmt.Sprint(call())
	for _, l := range [][][]int{first.of.Rows, first.permuted.Rows, first.rows} {
		spoilRows(t, l)
	}
	spoilTrie(t, first.built)
	spoil(t, first.children)
	for _, c := range []api.Cursor{first.root, first.down, first.up, first.next, first.searched} {
		spoil(t, c.At, c.End)
	}
	if again := fmt.Sprint(call()); again != kept || fmt.Sprint(first) == kept {
		t.Errorf("the results %s became %s", kept, again)
	}
}

// P14.1, R4: arguments whose slices share memory are read like any others, and the results share none.
func TestSharedArguments(t *testing.T) {
	flat := numbers("1 2 1 2 0")
	l := [][]int{flat[0:2], flat[1:3], flat[2:4], flat[3:5], flat[0:2]}
	r, err := trie.Of(2, l)
	relIs(t, func() string { return "Of(..)" }, r, err, 2, rows("1 2, 2 0, 2 1"), api.OK)
	// The order is a part of the rows.
	p, err := trie.Permute(api.Rel{Arity: 2, Rows: [][]int{flat[0:2], flat[3:5]}}, flat[3:5])
	relIs(t, func() string { return "Permute(..)" }, p, err, 2, nil, api.ErrArg)
	p, err = trie.Permute(api.Rel{Arity: 3, Rows: [][]int{flat[2:5], flat[0:3]}}, flat[2:5])
	relIs(t, func() string { return "Permute(..)" }, p, err, 3, rows("2 0 1, 2 1 1"), api.OK)
	one := []int{0, 1}
	x := api.Trie{Levels: []api.Level{{Keys: one[1:], First: one}, {Keys: one[:1], First: one}}}
	got := trie.Rows(x)
	if !sameRows(got, rows("1 0")) || !trie.Valid(x) {
		t.Errorf("Rows(%v) = %v", x, got)
	}
	spoilRows(t, got)
	spoil(t, trie.Children(x, one[1:]))
	c, ok := trie.Down(x, api.Cursor{At: one[:1], End: one[1:]})
	if !ok || !sameCursor(c, cur("0 0", "1 1")) {
		t.Errorf("Down(%v, ..) = %v, %v", x, c, ok)
	}
	spoil(t, c.At, c.End)
	if !slices.Equal(flat, numbers("1 2 1 2 0")) || !slices.Equal(one, []int{0, 1}) {
		t.Errorf("the arguments became %v and %v", flat, one)
	}
}
