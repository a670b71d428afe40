package trie_test

import (
	"graphdb/api"
	"math/rand"
	"slices"
	"testing"
)

// P14.1: the chapter's example and the sample.
func TestPermute(t *testing.T) {
	permuteIs(t, chapter(), numbers("1 0"), rows("1 2, 3 1, 5 1"), api.OK)
	permuteIs(t, chapter(), numbers("0 1"), chapter().Rows, api.OK)
	permuteIs(t, sample(), numbers("0 1 2"), sample().Rows, api.OK)
	// Column 0 is the old column 2, column 1 the old column 0: an order and its inverse are different.
	permuteIs(t, rel(3, "1 2 3, 4 5 6"), numbers("2 0 1"), rows("3 1 2, 6 4 5"), api.OK)
	permuteIs(t, rel(3, "1 2 3, 4 5 6"), numbers("1 2 0"), rows("2 3 1, 5 6 4"), api.OK)
	permuteIs(t, rel(3, "1 2 3, 1 3 2, 2 1 3"), numbers("2 1 0"), rows("2 3 1, 3 1 2, 3 2 1"), api.OK)
	permuteIs(t, rel(1, "1, 2"), numbers("0"), rows("1, 2"), api.OK)
	permuteIs(t, rel(8, "1 2 3 4 5 6 7 8, 8 7 6 5 4 3 2 1"), numbers("7 6 5 4 3 2 1 0"), rows("1 2 3 4 5 6 7 8, 8 7 6 5 4 3 2 1"), api.OK)
	permuteIs(t, rel(8, "1 2 3 4 5 6 7 8"), numbers("3 1 4 0 5 7 2 6"), rows("4 2 5 1 6 8 3 7"), api.OK)
}

// P14.1: relations without rows and of every arity.
func TestPermuteOfNothing(t *testing.T) {
	for arity := 1; arity <= 8; arity++ {
		for _, l := range [][][]int{nil, {}} {
			r := api.Rel{Arity: arity, Rows: l}
			permuteIs(t, r, upTo(arity), nil, api.OK)
			permuteIs(t, r, upTo(arity-1), nil, api.ErrArg)
			permuteIs(t, r, upTo(arity+1), nil, api.ErrArg)
			back := upTo(arity)
			slices.Reverse(back)
			permuteIs(t, r, back, nil, api.OK)
			permuteIs(t, api.Rel{Arity: arity, Rows: many(arity, 30)}, back, permuted(many(arity, 30), back), api.OK)
		}
	}
}

// P14.1: orders that are too short or too long, that contain an element twice, or one that is no column.
func TestWrongOrders(t *testing.T) {
	for _, r := range []api.Rel{sample(), {Arity: 3}, rel(3, "1 1 1")} {
		for _, order := range []string{
			"", "0", "0 1", "1 2", "2 1", "0 1 2 3", "3 2 1 0", "0 1 2 0", "0 1 2 2", "0 0 1 2", "0 1 2 -1", "0 1 2 0 1 2",
			"0 0 0", "0 0 1", "0 1 1", "0 1 0", "2 1 2", "1 1 1", "2 2 2",
			"0 1 3", "3 1 2", "1 2 3", "3 3 3", "0 3 2", "0 1 4", "0 1 1000000",
			"-1 0 1", "0 1 -1", "0 -1 2", "-1 1 2", "-3 -2 -1",
			"0 1 4294967298", "0 1 -9223372036854775808", "9223372036854775807 0 1",
		} {
			permuteIs(t, r, numbers(order), nil, api.ErrArg)
		}
		permuteIs(t, r, []int{}, nil, api.ErrArg)
	}
	for _, order := range []string{"", "1", "-1", "0 0", "0 1", "1 0", "9223372036854775807"} {
		permuteIs(t, rel(1, "1, 2"), numbers(order), nil, api.ErrArg)
	}
}

// P14.1: every list of at most four integers beside the columns of a relation.
func TestAllOrders(t *testing.T) {
	for arity := 1; arity <= 4; arity++ {
		right := 0
		r := api.Rel{Arity: arity, Rows: grid(arity, 3)[1:]}
		r.Rows = r.Rows[:min(7, len(r.Rows))]
		lists(4, []int{-1, 0, 1, 2, 3, 4}, func(order []int) {
			if sorted := slices.Sorted(slices.Values(order)); !slices.Equal(sorted, upTo(arity)) {
				permuteIs(t, r, order, nil, api.ErrArg)
				return
			}
			right++
			permuteIs(t, r, order, permuted(r.Rows, order), api.OK)
		})
		if want := []int{1, 1, 2, 6, 24}[arity]; right != want {
			t.Errorf("%d orders of %d columns", right, arity)
		}
	}
}

// P14.1: every order of five columns, and pseudorandom ones of more.
func TestRightOrders(t *testing.T) {
	source := rand.New(rand.NewSource(142))
	orders(upTo(5), func(order []int) {
		r := api.Rel{Arity: 5, Rows: distinct(someRows(source, 5))}
		permuteIs(t, r, order, permuted(r.Rows, order), api.OK)
	})
	for range 2000 {
		arity := source.Intn(8) + 1
		r, order := api.Rel{Arity: arity, Rows: distinct(someRows(source, arity))}, source.Perm(arity)
		permuteIs(t, r, order, permuted(r.Rows, order), api.OK)
	}
}

// P14.1: a relation with MaxRows rows.
func TestPermuteOfMany(t *testing.T) {
	var l, want [][]int
	for i := range 20000 {
		l = append(l, []int{i, 20000 - i, 5})
		want = append(want, []int{i + 1, 5, 19999 - i})
	}
	permuteIs(t, api.Rel{Arity: 3, Rows: l}, numbers("1 2 0"), want, api.OK)
	permuteIs(t, api.Rel{Arity: 3, Rows: l}, numbers("1 2 1"), nil, api.ErrArg)
}
