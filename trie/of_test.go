package trie_test

import (
	"graphdb/api"
	"math"
	"math/rand"
	"slices"
	"testing"
)

// badArities holds integers that are no arities.
var badArities = []int{0, -1, 9, 10, -8, 1<<32 + 1, math.MinInt, math.MaxInt}

// P14.1: rows in any order, some of them twice, the chapter's example among them.
func TestOf(t *testing.T) {
	ofIs(t, 2, rows("2 1, 1 5, 1 3, 2 1"), chapter().Rows, api.OK)
	ofIs(t, 2, rows("1 3, 1 5, 2 1"), chapter().Rows, api.OK)
	ofIs(t, 1, rows("3, 1, 2, 3, 1"), rows("1, 2, 3"), api.OK)
	ofIs(t, 1, rows("7"), rows("7"), api.OK)
	ofIs(t, 1, rows("7, 7, 7"), rows("7"), api.OK)
	ofIs(t, 2, rows("1 10, 1 9, 10 1, 9 1, -1 5, -1 -5"), rows("-1 -5, -1 5, 1 9, 1 10, 9 1, 10 1"), api.OK)
	ofIs(t, 3, rows("1 2 3, 3 2 1, 1 2 3, 2 1 3, 2 3 1, 1 3 2, 1 2 3"), rows("1 2 3, 1 3 2, 2 1 3, 2 3 1, 3 2 1"), api.OK)
	ofIs(t, 8, rows("1 2 3 4 5 6 7 8, 1 2 3 4 5 6 7 7, 0 9 9 9 9 9 9 9"), rows("0 9 9 9 9 9 9 9, 1 2 3 4 5 6 7 7, 1 2 3 4 5 6 7 8"), api.OK)
}

// P14.1: every arity, without rows and with some.
func TestArities(t *testing.T) {
	for arity := 1; arity <= 8; arity++ {
		for _, l := range [][][]int{nil, {}} {
			ofIs(t, arity, l, nil, api.OK)
			checkIs(t, api.Rel{Arity: arity, Rows: l}, api.OK)
		}
		l := many(arity, 100)
		ofIs(t, arity, slices.Concat(l[50:], l), l, api.OK)
		checkIs(t, api.Rel{Arity: arity, Rows: l}, api.OK)
	}
	for _, arity := range badArities {
		for _, l := range [][][]int{nil, {}, {{}}, {nil}, rows("1"), rows("1 2"), rows("1 2 3 4 5 6 7 8 9"), rows("1 2 3 4 5 6 7 8 9 10, 1 2"), rows("2, 1"), rows("1, 1")} {
			ofIs(t, arity, l, nil, api.ErrArg)
			isNoRelation(t, api.Rel{Arity: arity, Rows: l}, api.ErrArg)
		}
	}
	isNoRelation(t, api.Rel{}, api.ErrArg)
}

// P14.1: a row that is empty, too short or too long, at each place, alone and among others.
func TestRowLengths(t *testing.T) {
	for arity := 1; arity <= 8; arity++ {
		for n := range 11 {
			if n == arity {
				continue
			}
			row := upTo(n)
			ofIs(t, arity, [][]int{row}, nil, api.ErrArg)
			isNoRelation(t, api.Rel{Arity: arity, Rows: [][]int{row}}, api.ErrArg)
			for at := range 4 {
				l := slices.Insert(many(arity, 3), at, row)
				ofIs(t, arity, l, nil, api.ErrArg)
				isNoRelation(t, api.Rel{Arity: arity, Rows: l}, api.ErrArg)
			}
		}
	}
	ofIs(t, 1, [][]int{nil}, nil, api.ErrArg)
	isNoRelation(t, api.Rel{Arity: 1, Rows: [][]int{nil}}, api.ErrArg)
	// As many integers as the rows would have together.
	ofIs(t, 2, rows("1, 2 3 4"), nil, api.ErrArg)
	isNoRelation(t, rel(2, "1, 2 3 4"), api.ErrArg)
}

// P14.1: rows with the least and the greatest integer, and others whose differences are no int.
func TestExtremeRows(t *testing.T) {
	single, pairs := extremeRows()
	back := func(l [][]int) [][]int {
		l = slices.Clone(l)
		slices.Reverse(l)
		return l
	}
	ofIs(t, 1, back(single), single, api.OK)
	ofIs(t, 2, back(pairs), pairs, api.OK)
	checkIs(t, api.Rel{Arity: 1, Rows: single}, api.OK)
	checkIs(t, api.Rel{Arity: 2, Rows: pairs}, api.OK)
	isNoRelation(t, api.Rel{Arity: 2, Rows: back(pairs)}, api.ErrOrder)
	for i, a := range extremes {
		for j, b := range extremes {
			for _, l := range [][][]int{{{a}, {b}}, {{0, a}, {0, b}}, {{a, 0}, {b, 0}}, {{a, 1}, {b, 0}}} {
				err := api.OK
				if i >= j && (i > j || len(l[0]) == 1 || l[0][1] >= l[1][1]) {
					err = api.ErrOrder
				}
				checkIs(t, api.Rel{Arity: len(l[0]), Rows: l}, err)
			}
		}
	}
}

// P14.1: two rows that are equal or decreasing, at each place of a relation.
func TestOrderOfRows(t *testing.T) {
	for i := 1; i < len(sample().Rows); i++ {
		for _, edit := range []func(l [][]int) [][]int{
			func(l [][]int) [][]int { l[i] = l[i-1]; return l },
			func(l [][]int) [][]int { l[i-1], l[i] = l[i], l[i-1]; return l },
			func(l [][]int) [][]int { return slices.Insert(l, i, l[i]) },
			func(l [][]int) [][]int { return append(l, l[i-1]) },
		} {
			isNoRelation(t, api.Rel{Arity: 3, Rows: edit(sample().Rows)}, api.ErrOrder)
		}
	}
	for _, text := range []string{"1 1, 1 1", "1 2, 1 1", "2 1, 1 2", "2 1, 1 1", "2 1, 1 9", "1 10, 1 9", "10 1, 9 1", "1 1, 2 2, 2 1", "1 1, 2 2, 1 3", "0 0, -1 -1", "0 0, 0 -1"} {
		isNoRelation(t, rel(2, text), api.ErrOrder)
	}
	for _, text := range []string{"1 1, 1 2", "1 2, 2 1", "1 9, 1 10", "9 1, 10 1", "-1 -1, 0 0", "0 -1, 0 0", "-1 9, 0 -9"} {
		checkIs(t, rel(2, text), api.OK)
	}
	isNoRelation(t, rel(1, "1, 1"), api.ErrOrder)
	isNoRelation(t, rel(1, "2, 1"), api.ErrOrder)
	checkIs(t, rel(8, "1 1 1 1 1 1 1 1, 1 1 1 1 1 1 1 2"), api.OK)
	isNoRelation(t, rel(8, "1 1 1 1 1 1 1 2, 1 1 1 1 1 1 1 1"), api.ErrOrder)
	isNoRelation(t, rel(8, "1 1 1 1 1 1 1 1, 1 1 1 1 1 1 1 1"), api.ErrOrder)
}

// shuffled returns the rows of l in a pseudorandom order.
func shuffled(l [][]int) [][]int {
	source := rand.New(rand.NewSource(14))
	l = slices.Clone(l)
	source.Shuffle(len(l), func(i, j int) { l[i], l[j] = l[j], l[i] })
	return l
}

// P14.1: MaxRows rows, one more, and more of which only MaxRows are distinct.
func TestManyRows(t *testing.T) {
	for _, arity := range []int{1, 2, 8} {
		most, more := many(arity, 20000), many(arity, 20001)
		ofIs(t, arity, shuffled(most), most, api.OK)
		ofIs(t, arity, shuffled(slices.Concat(most, most[:1])), most, api.OK)
		ofIs(t, arity, shuffled(slices.Concat(most, most, most[5:9])), most, api.OK)
		ofIs(t, arity, shuffled(more), nil, api.ErrLong)
		ofIs(t, arity, shuffled(slices.Concat(more, more)), nil, api.ErrLong)
		checkIs(t, api.Rel{Arity: arity, Rows: most}, api.OK)
		isNoRelation(t, api.Rel{Arity: arity, Rows: more}, api.ErrLong)
	}
	// One row that comes often enough.
	ofIs(t, 1, slices.Repeat(rows("4"), 20001), rows("4"), api.OK)
	isNoRelation(t, api.Rel{Arity: 1, Rows: slices.Repeat(rows("4"), 20000)}, api.ErrOrder)
}

// P14.1, R2: several errors at once. The arity and the lengths of all rows come first, then their number, then their order.
func TestFirstError(t *testing.T) {
	more := many(2, 20001)
	for _, short := range [][]int{nil, {1}, {1, 2, 3}} {
		for _, l := range [][][]int{slices.Concat(more, [][]int{short}), slices.Concat([][]int{short}, more), slices.Concat(rows("2 1, 1 2"), [][]int{short})} {
			ofIs(t, 2, l, nil, api.ErrArg)
			isNoRelation(t, api.Rel{Arity: 2, Rows: l}, api.ErrArg)
		}
	}
	for _, arity := range []int{0, -2, 1, 3, 9} {
		for _, l := range [][][]int{more, shuffled(more), rows("2 1, 1 2"), rows("1 1, 1 1")} {
			ofIs(t, arity, l, nil, api.ErrArg)
			isNoRelation(t, api.Rel{Arity: arity, Rows: l}, api.ErrArg)
		}
	}
	isNoRelation(t, api.Rel{Arity: 2, Rows: shuffled(more)}, api.ErrLong)
	isNoRelation(t, api.Rel{Arity: 2, Rows: slices.Concat(many(2, 20000), rows("1 1"))}, api.ErrLong)
	isNoRelation(t, api.Rel{Arity: 2, Rows: slices.Repeat(rows("1 1"), 20001)}, api.ErrLong)
	isNoRelation(t, api.Rel{Arity: 2, Rows: shuffled(many(2, 20000))}, api.ErrOrder)
}

// P14.1: all lists of at most four rows of small elements and of every small length, by the definitions.
func TestSmallLists(t *testing.T) {
	small := append(grid(2, 2), nil, []int{0}, []int{0, 0, 0})
	accepted := 0
	for arity := range 4 {
		lists(4, small, func(l [][]int) {
			r := api.Rel{Arity: arity, Rows: l}
			err := checked(r)
			checkIs(t, r, err)
			if err == api.OK {
				accepted++
			}
			if err == api.ErrArg {
				ofIs(t, arity, l, nil, api.ErrArg)
			} else {
				ofIs(t, arity, l, distinct(l), api.OK)
			}
		})
	}
	// The sets of rows of two elements, two sets of one row of another length, and three without rows.
	if accepted != 16+2*2 {
		t.Errorf("%d relations are accepted", accepted)
	}
}

// P14.1: pseudorandom rows, by the definitions.
func TestAnyRows(t *testing.T) {
	source := rand.New(rand.NewSource(141))
	counts := map[api.Errno]int{}
	for i := range 8000 {
		arity := source.Intn(8) + 1
		l := someRows(source, arity)
		ofIs(t, arity, l, distinct(l), api.OK)
		l = distinct(l)
		for range i % 3 {
			switch {
			case len(l) > 0 && source.Intn(3) > 0:
				at := source.Intn(len(l))
				l[at] = changed(source, slices.Clone(l[at]), someNumber(source, 3))
			default:
				l = changed(source, l, someRow(source, arity))
			}
		}
		r := api.Rel{Arity: arity, Rows: l}
		counts[checked(r)]++
		if err := checked(r); err == api.OK {
			checkIs(t, r, err)
		} else {
			isNoRelation(t, r, err)
		}
	}
	if counts[api.OK] < 3000 || counts[api.ErrArg] < 500 || counts[api.ErrOrder] < 500 {
		t.Errorf("the errors came as often as this: %v", counts)
	}
}
