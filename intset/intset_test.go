package intset_test

import (
	"graphdb/intset"
	"maps"
	"math"
	"math/rand"
	"slices"
	"testing"
)

// least and greatest are the ends of int.
const (
	least    = math.MinInt
	greatest = math.MaxInt
)

// guards are the numbers that stand, in the capacity of a guarded slice, behind its elements.
var guards = []int{91, -92, 0}

// guarded returns a slice with the elements of l and, behind them in its capacity, numbers that no function may change.
func guarded(l []int) []int {
	return slices.Concat(l, guards)[:len(l)]
}

// unchanged reports whether the guarded slice l still has the elements of before, and the same numbers behind them.
func unchanged(l, before []int) bool {
	return slices.Equal(l, before) && slices.Equal(l[len(l):len(l)+len(guards)], guards)
}

// sequences returns all slices of at most most elements of the alphabet, valid and not, each in every order.
func sequences(alphabet []int, most int) [][]int {
	all := [][]int{{}}
	for from := 0; len(all[from]) < most; from++ {
		for _, x := range alphabet {
			all = append(all, append(slices.Clone(all[from]), x))
		}
	}
	return all
}

// subsets returns all sets of elements of the universe, which is increasing.
func subsets(universe []int) [][]int {
	var all [][]int
	for mask := range 1 << len(universe) {
		set := []int{}
		for i, x := range universe {
			if mask>>i&1 == 1 {
				set = append(set, x)
			}
		}
		all = append(all, set)
	}
	return all
}

// members returns the elements of l as a map, which knows neither order nor duplicates.
func members(l []int) map[int]bool {
	m := map[int]bool{}
	for _, x := range l {
		m[x] = true
	}
	return m
}

// where returns, in increasing order, the elements of any of ls for which keep is true.
func where(keep func(x int) bool, ls ...[]int) []int {
	m := members(slices.Concat(ls...))
	maps.DeleteFunc(m, func(x int, _ bool) bool { return !keep(x) })
	return slices.Sorted(maps.Keys(m))
}

// always is true for all integers.
func always(int) bool { return true }

// increasing reports whether each element of l is less than all elements behind it.
func increasing(l []int) bool {
	for i, x := range l {
		for _, y := range l[i+1:] {
			if x >= y {
				return false
			}
		}
	}
	return true
}

// disturb changes every element of a result and of the capacity behind it, so that memory that the result shares with an argument shows in the argument.
func disturb(l []int) {
	l = l[:cap(l)]
	for i := range l {
		l[i] = 77777
	}
}

// random returns a pseudorandom slice of at most most elements, from a range that makes duplicates frequent or rare.
func random(source *rand.Rand, most int) []int {
	l := make([]int, source.Intn(most+1))
	width := 1 + source.Intn(3*most)
	for i := range l {
		l[i] = source.Intn(width) - width/2
		if source.Intn(50) == 0 {
			l[i] = int(source.Uint64())
		}
	}
	return l
}

// randomPairs returns pairs of longer slices: pseudorandom, ascending, descending, of equal elements, and beginning or ending alike.
func randomPairs() [][2][]int {
	source := rand.New(rand.NewSource(6))
	ascending := make([]int, 1000)
	for i := range ascending {
		ascending[i] = 3*i - 1500
	}
	descending := slices.Clone(ascending)
	slices.Reverse(descending)
	equal := slices.Repeat([]int{greatest}, 1000)
	pairs := [][2][]int{{ascending, descending}, {ascending, equal}, {equal, descending}, {ascending, ascending[:500]}, {descending, ascending[500:]}, {equal, equal[:1]}}
	for i := range 400 {
		pairs = append(pairs, [2][]int{random(source, 1+i), random(source, 1+i*i%401)})
	}
	for range 400 {
		l := random(source, 60)
		pairs = append(pairs, [2][]int{l, intset.Of(random(source, 60))}, [2][]int{intset.Of(l), l})
	}
	return pairs
}

// P6.1: Valid reports whether a slice is strictly increasing.
func TestValid(t *testing.T) {
	for _, c := range []struct {
		l    []int
		want bool
	}{
		{nil, true}, {[]int{}, true}, {[]int{0}, true}, {[]int{least}, true}, {[]int{greatest}, true},
		{[]int{1, 2}, true}, {[]int{1, 1}, false}, {[]int{2, 1}, false}, {[]int{-1, 0, 7}, true},
		{[]int{least, greatest}, true}, {[]int{greatest, least}, false}, {[]int{least, least}, false}, {[]int{greatest, greatest}, false},
		{[]int{least, -1, 0, 1, greatest}, true}, {[]int{least, -1, 0, 1, 1}, false}, {[]int{0, 0, 1, 2, 3}, false}, {[]int{1, 0, 2, 3}, false}, {[]int{1, 2, 3, 0}, false},
		{[]int{1, 3, 2, 4}, false}, {[]int{5, 4, 3, 2, 1}, false}, {[]int{7, 7, 7, 7}, false},
	} {
		if got := intset.Valid(c.l); got != c.want {
			t.Errorf("Valid(%v) = %v, want %v", c.l, got, c.want)
		}
	}
	for _, l := range sequences([]int{least, -1, 0, 1, greatest}, 5) {
		g := guarded(l)
		if got := intset.Valid(g); got != increasing(l) || !unchanged(g, l) {
			t.Fatalf("Valid(%v) = %v, and left %v", l, got, g)
		}
	}
}

// P6.1: Valid sees one wrong pair at any place of a long slice.
func TestValidLong(t *testing.T) {
	l := make([]int, 300)
	for i := range l {
		l[i] = 2 * i
	}
	if !intset.Valid(l) {
		t.Error("Valid of an increasing slice of 300 elements is false")
	}
	for i := range l[1:] {
		wrong := slices.Clone(l)
		wrong[i+1] = wrong[i]
		if intset.Valid(wrong) {
			t.Errorf("Valid with equal elements at %d and %d is true", i, i+1)
		}
		wrong[i+1] = wrong[i] - 1
		if intset.Valid(wrong) {
			t.Errorf("Valid with decreasing elements at %d and %d is true", i, i+1)
		}
	}
}

// P6.1: Of returns the distinct elements in increasing order.
func TestOf(t *testing.T) {
	for _, c := range []struct{ l, want []int }{
		{nil, nil}, {[]int{}, nil}, {[]int{5}, []int{5}}, {[]int{3, 1, 3}, []int{1, 3}},
		{[]int{7, 7, 7, 7}, []int{7}}, {[]int{5, 4, 3, 2, 1}, []int{1, 2, 3, 4, 5}}, {[]int{1, 2, 3}, []int{1, 2, 3}}, {[]int{2, 2, 1, 1, 3, 3}, []int{1, 2, 3}},
		{[]int{greatest, least}, []int{least, greatest}}, {[]int{greatest, 0, least, greatest, -1, least, 1}, []int{least, -1, 0, 1, greatest}},
		{[]int{-1, -2, -3}, []int{-3, -2, -1}}, {[]int{10, 9, 100}, []int{9, 10, 100}},
	} {
		if got := intset.Of(c.l); !slices.Equal(got, c.want) {
			t.Errorf("Of(%v) = %v, want %v", c.l, got, c.want)
		}
	}
	all := sequences([]int{least, -1, 0, 1, greatest}, 5)
	for _, p := range randomPairs() {
		all = append(all, p[0], p[1])
	}
	for _, l := range all {
		g := guarded(l)
		if got, want := intset.Of(g), where(always, l); !slices.Equal(got, want) || !unchanged(g, l) {
			t.Fatalf("Of(%v) = %v, want %v, and left %v", l, got, want, g)
		}
	}
}

// P6.1: Has reports whether an integer is an element of any slice.
func TestHas(t *testing.T) {
	for _, c := range []struct {
		l    []int
		x    int
		want bool
	}{
		{nil, 0, false}, {[]int{}, 0, false}, {[]int{0}, 0, true}, {[]int{1}, 0, false}, {[]int{7, 3}, 3, true}, {[]int{7, 3}, 7, true}, {[]int{7, 3}, 4, false},
		{[]int{1, 3, 5}, 0, false}, {[]int{1, 3, 5}, 1, true}, {[]int{1, 3, 5}, 2, false}, {[]int{1, 3, 5}, 5, true}, {[]int{1, 3, 5}, 6, false},
		{[]int{9, 1, 5, 3}, 9, true}, {[]int{9, 1, 5, 3}, 3, true}, {[]int{9, 1, 5, 3}, 4, false}, {[]int{4, 4, 4}, 4, true}, {[]int{4, 4, 4}, 5, false},
		{[]int{least, greatest}, least, true}, {[]int{least, greatest}, greatest, true}, {[]int{least, greatest}, least + 1, false}, {[]int{least, greatest}, 0, false}, {[]int{1}, -1, false},
	} {
		if got := intset.Has(c.l, c.x); got != c.want {
			t.Errorf("Has(%v, %d) = %v, want %v", c.l, c.x, got, c.want)
		}
	}
	for _, l := range sequences([]int{least, -1, 0, greatest}, 5) {
		m := members(l)
		for _, x := range []int{least, least + 1, -1, 0, 1, greatest - 1, greatest} {
			g := guarded(l)
			if got := intset.Has(g, x); got != m[x] || !unchanged(g, l) {
				t.Fatalf("Has(%v, %d) = %v, and left %v", l, x, got, g)
			}
		}
	}
}

// P6.1: Union, Meet and Minus of chosen slices.
func TestTwo(t *testing.T) {
	for _, c := range []struct{ a, b, union, meet, minus []int }{
		{nil, nil, nil, nil, nil},
		{[]int{}, nil, nil, nil, nil},
		{[]int{1, 3}, []int{2}, []int{1, 2, 3}, nil, []int{1, 3}},
		{[]int{1, 2}, []int{2, 3}, []int{1, 2, 3}, []int{2}, []int{1}},
		{[]int{1, 2}, []int{2}, []int{1, 2}, []int{2}, []int{1}},
		{[]int{1, 2}, nil, []int{1, 2}, nil, []int{1, 2}},
		{nil, []int{2, 1, 2}, []int{1, 2}, nil, nil},
		{[]int{2, 1, 2}, []int{}, []int{1, 2}, nil, []int{1, 2}},
		{[]int{5, 1, 2}, []int{2, 5, 5}, []int{1, 2, 5}, []int{2, 5}, []int{1}},
		{[]int{4, 4, 4}, []int{4}, []int{4}, []int{4}, nil},
		{[]int{4}, []int{4, 4, 4}, []int{4}, []int{4}, nil},
		{[]int{4, 4}, []int{5, 5}, []int{4, 5}, nil, []int{4}},
		{[]int{5, 4, 3, 2, 1}, []int{6, 4, 2, 0}, []int{0, 1, 2, 3, 4, 5, 6}, []int{2, 4}, []int{1, 3, 5}},
		{[]int{1, 2, 3}, []int{4, 5, 6}, []int{1, 2, 3, 4, 5, 6}, nil, []int{1, 2, 3}},
		{[]int{4, 5, 6}, []int{3, 2, 1}, []int{1, 2, 3, 4, 5, 6}, nil, []int{4, 5, 6}},
		{[]int{1, 9}, []int{2, 3, 4, 5}, []int{1, 2, 3, 4, 5, 9}, nil, []int{1, 9}},
		{[]int{least}, []int{greatest}, []int{least, greatest}, nil, []int{least}},
		{[]int{greatest, least}, []int{least, greatest, 0}, []int{least, 0, greatest}, []int{least, greatest}, nil},
		{[]int{greatest, -1, least}, []int{greatest}, []int{least, -1, greatest}, []int{greatest}, []int{least, -1}},
	} {
		if got := intset.Union(c.a, c.b); !slices.Equal(got, c.union) {
			t.Errorf("Union(%v, %v) = %v, want %v", c.a, c.b, got, c.union)
		}
		if got := intset.Meet(c.a, c.b); !slices.Equal(got, c.meet) {
			t.Errorf("Meet(%v, %v) = %v, want %v", c.a, c.b, got, c.meet)
		}
		if got := intset.Minus(c.a, c.b); !slices.Equal(got, c.minus) {
			t.Errorf("Minus(%v, %v) = %v, want %v", c.a, c.b, got, c.minus)
		}
	}
}

// checkPair compares Union, Meet and Minus of a and b with the definitions, and the arguments with what they were.
func checkPair(t *testing.T, a, b []int) {
	inA, inB := members(a), members(b)
	both := func(x int) bool { return inA[x] && inB[x] }
	onlyA := func(x int) bool { return inA[x] && !inB[x] }
	ga, gb := guarded(a), guarded(b)
	if got, want := intset.Union(ga, gb), where(always, a, b); !slices.Equal(got, want) {
		t.Fatalf("Union(%v, %v) = %v, want %v", a, b, got, want)
	}
	if got, want := intset.Meet(ga, gb), where(both, a, b); !slices.Equal(got, want) {
		t.Fatalf("Meet(%v, %v) = %v, want %v", a, b, got, want)
	}
	if got, want := intset.Minus(ga, gb), where(onlyA, a, b); !slices.Equal(got, want) {
		t.Fatalf("Minus(%v, %v) = %v, want %v", a, b, got, want)
	}
	if !unchanged(ga, a) || !unchanged(gb, b) {
		t.Fatalf("the arguments %v and %v were left as %v and %v", a, b, ga, gb)
	}
}

// P6.1: Union, Meet and Minus of all pairs of short slices, valid and not, and of pairs of long ones.
func TestPairs(t *testing.T) {
	short := sequences([]int{least, -1, 0, greatest}, 3)
	for _, a := range short {
		for _, b := range short {
			checkPair(t, a, b)
		}
	}
	for _, a := range subsets([]int{least, least + 1, -1, 0, 1, 2, greatest}) {
		for _, b := range subsets([]int{least, least + 1, -1, 0, 1, 2, greatest}) {
			checkPair(t, a, b)
		}
	}
	for _, p := range randomPairs() {
		checkPair(t, p[0], p[1])
		checkPair(t, p[1], p[0])
	}
}

// P6.1: Seek at chosen places of slices that are valid and that are not.
func TestSeek(t *testing.T) {
	odd := []int{1, 3, 5}
	for _, c := range []struct {
		l             []int
		from, x, want int
	}{
		{nil, 0, 0, 0}, {nil, -1, least, 0}, {nil, 1, least, 0}, {nil, greatest, 0, 0}, {[]int{}, least, greatest, 0},
		{odd, 0, 0, 0}, {odd, 0, 1, 0}, {odd, 0, 2, 1}, {odd, 0, 3, 1}, {odd, 0, 4, 2}, {odd, 0, 5, 2}, {odd, 0, 6, 3},
		{odd, 1, 0, 1}, {odd, 1, 3, 1}, {odd, 1, 4, 2}, {odd, 2, 0, 2}, {odd, 2, 5, 2}, {odd, 2, 6, 3},
		{odd, 3, 0, 3}, {odd, 4, 0, 3}, {odd, 9, 0, 3}, {odd, greatest, 0, 3}, {odd, greatest, least, 3}, {odd, greatest - 1, 5, 3},
		{odd, -1, 0, 0}, {odd, -1, 4, 2}, {odd, -3, 5, 2}, {odd, least, 3, 1}, {odd, least, 6, 3}, {odd, least + 1, least, 0},
		{odd, 0, least, 0}, {odd, 0, greatest, 3}, {odd, 1, least, 1},
		{[]int{5, 1}, -7, 1, 0}, {[]int{5, 1}, 1, 1, 1}, {[]int{5, 1}, 1, 2, 2}, {[]int{5, 1}, 0, 5, 0}, {[]int{5, 1}, 0, 6, 2},
		{[]int{9, 0, 5, 0, 7}, 0, 1, 0}, {[]int{9, 0, 5, 0, 7}, 1, 1, 2}, {[]int{9, 0, 5, 0, 7}, 1, 6, 4}, {[]int{9, 0, 5, 0, 7}, 3, 1, 4}, {[]int{9, 0, 5, 0, 7}, 1, 8, 5}, {[]int{0, 9, 0, 0, 0}, 0, 5, 1},
		{[]int{4, 4, 4}, 0, 4, 0}, {[]int{4, 4, 4}, 1, 4, 1}, {[]int{4, 4, 4}, 2, 3, 2}, {[]int{4, 4, 4}, 0, 5, 3},
		{[]int{least, greatest}, 0, least, 0}, {[]int{least, greatest}, 0, least + 1, 1}, {[]int{least, greatest}, 0, greatest, 1}, {[]int{least, least}, 0, greatest, 2}, {[]int{greatest, least}, 1, least, 1}, {[]int{greatest, least}, 1, greatest, 2},
	} {
		if got := intset.Seek(c.l, c.from, c.x); got != c.want {
			t.Errorf("Seek(%v, %d, %d) = %d, want %d", c.l, c.from, c.x, got, c.want)
		}
	}
}

// sought returns what Seek is defined to return, by a look at all indices from the last to the first.
func sought(l []int, from, x int) int {
	best := len(l)
	for i := len(l) - 1; i >= 0; i-- {
		if i >= from && l[i] >= x {
			best = i
		}
	}
	return best
}

// froms returns the first indices from which a slice of n elements is searched.
func froms(n int) []int {
	l := []int{least, least + 1, -n, -7, -1, n + 7, greatest - 1, greatest}
	for i := range n + 2 {
		l = append(l, i)
	}
	return l
}

// P6.1: Seek on all short slices, valid and not, and on long ones.
func TestSeekAll(t *testing.T) {
	all := sequences([]int{least, -1, 0, greatest}, 5)
	for _, p := range randomPairs()[:60] {
		all = append(all, p[0], intset.Of(p[0]))
	}
	for _, l := range all {
		g := guarded(l)
		for _, from := range froms(min(len(l), 20)) {
			for _, x := range []int{least, least + 1, -2, -1, 0, 1, 40, greatest - 1, greatest} {
				if got, want := intset.Seek(g, from, x), sought(l, from, x); got != want {
					t.Fatalf("Seek(%v, %d, %d) = %d, want %d", l, from, x, got, want)
				}
			}
		}
		if !unchanged(g, l) {
			t.Fatalf("Seek left %v as %v", l, g)
		}
	}
}

// P6.1: MeetAll of chosen lists of slices.
func TestMeetAll(t *testing.T) {
	for _, c := range []struct {
		ls   [][]int
		want []int
	}{
		{nil, nil}, {[][]int{}, nil}, {[][]int{nil}, nil}, {[][]int{{}}, nil}, {[][]int{{}, nil, {}}, nil},
		{[][]int{{2, 1}}, []int{1, 2}}, {[][]int{{3, 1, 3, 2, 1}}, []int{1, 2, 3}}, {[][]int{{4, 4, 4}}, []int{4}}, {[][]int{{greatest, least}}, []int{least, greatest}},
		{[][]int{{1, 2, 3}, {2, 3}, {3, 2, 2}}, []int{2, 3}}, {[][]int{{1, 2}, {3, 4}}, nil}, {[][]int{{1, 2}, {2, 3}, {3, 1}}, nil},
		{[][]int{{1, 2}, {}}, nil}, {[][]int{{}, {1, 2}}, nil}, {[][]int{{1, 2}, nil, {1, 2}}, nil}, {[][]int{nil, {1}, {1}}, nil}, {[][]int{{1}, {1}, nil}, nil},
		{[][]int{{least, 0, greatest}, {greatest, least}, {greatest, 1, greatest, least, 2}}, []int{least, greatest}},
	} {
		if got := intset.MeetAll(c.ls); !slices.Equal(got, c.want) {
			t.Errorf("MeetAll(%v) = %v, want %v", c.ls, got, c.want)
		}
	}
}

// checkMeetAll compares MeetAll of ls with the definition, and the arguments with what they were.
func checkMeetAll(t *testing.T, ls ...[]int) {
	behind := []int{1}
	g := make([][]int, 0, len(ls)+1)
	sets := make([]map[int]bool, len(ls))
	for i, l := range ls {
		g = append(g, guarded(l))
		sets[i] = members(l)
	}
	g = append(g, behind)[:len(ls)]
	inAll := func(x int) bool {
		return !slices.ContainsFunc(sets, func(m map[int]bool) bool { return !m[x] })
	}
	if got, want := intset.MeetAll(g), where(inAll, ls...); !slices.Equal(got, want) {
		t.Fatalf("MeetAll(%v) = %v, want %v", ls, got, want)
	}
	for i, l := range ls {
		if !unchanged(g[i], l) {
			t.Fatalf("MeetAll(%v) left the argument %d as %v", ls, i, g[i])
		}
	}
	if !slices.Equal(g[:len(ls)+1][len(ls)], behind) {
		t.Fatalf("MeetAll(%v) changed what lies behind its argument", ls)
	}
}

// P6.1: MeetAll of all lists of up to three short slices, valid and not, and of all lists of four small sets.
func TestMeetAllShort(t *testing.T) {
	checkMeetAll(t)
	short := sequences([]int{least, 0, greatest}, 3)
	for _, a := range short {
		checkMeetAll(t, a)
		for _, b := range short {
			checkMeetAll(t, a, b)
			for _, c := range short {
				checkMeetAll(t, a, b, c)
			}
		}
	}
	small := subsets([]int{-1, 0, 1})
	for _, a := range small {
		for _, b := range small {
			for _, c := range small {
				for _, d := range small {
					checkMeetAll(t, a, b, c, d)
				}
			}
		}
	}
}

// P6.1: MeetAll of one hundred sets, and of as many where one of them, at any place, lacks an element or is empty.
func TestMeetAllHundred(t *testing.T) {
	ls := make([][]int, 100)
	for i := range ls {
		// Each set has the elements 0 to 199 and -5, but for 100 + i.
		for x := range 200 {
			if x != 100+i {
				ls[i] = append(ls[i], x)
			}
		}
		ls[i] = append(ls[i], -5, 7)
	}
	want := []int{-5}
	for x := range 100 {
		want = append(want, x)
	}
	if got := intset.MeetAll(ls); !slices.Equal(got, want) {
		t.Errorf("MeetAll of one hundred sets = %v, want %v", got, want)
	}
	checkMeetAll(t, ls...)
	for i := range ls {
		changed := slices.Clone(ls)
		changed[i] = nil
		if got := intset.MeetAll(changed); len(got) != 0 {
			t.Fatalf("MeetAll of one hundred sets, the set %d empty, = %v", i, got)
		}
		changed[i] = []int{least, 99, -5, 99, 300}
		if got := intset.MeetAll(changed); !slices.Equal(got, []int{-5, 99}) {
			t.Fatalf("MeetAll of one hundred sets, the set %d small, = %v", i, got)
		}
	}
}

// results returns the results of all functions that return sets, applied to a, b and c.
func results(a, b, c []int) [][]int {
	return [][]int{
		intset.Of(a), intset.Union(a, b), intset.Meet(a, b), intset.Minus(a, b),
		intset.MeetAll(nil), intset.MeetAll([][]int{a}), intset.MeetAll([][]int{a, b}), intset.MeetAll([][]int{a, b, c}),
	}
}

// P6.2: every result except that of Seek is valid, whether the arguments are or not.
func TestResultsAreValid(t *testing.T) {
	short := sequences([]int{least, -1, greatest}, 3)
	for _, a := range short {
		for _, b := range short {
			for i, r := range results(a, b, a) {
				if !increasing(r) || !intset.Valid(r) {
					t.Fatalf("the result %d of %v and %v is %v", i, a, b, r)
				}
			}
		}
	}
	for _, p := range randomPairs() {
		for i, r := range results(p[0], p[1], p[0]) {
			if !increasing(r) || !intset.Valid(r) {
				t.Fatalf("the result %d of %v and %v is %v", i, p[0], p[1], r)
			}
		}
	}
}

// checkLaws checks the laws of P6.2 for a, b and c, which need not be valid.
func checkLaws(t *testing.T, a, b, c []int) {
	union, meet, minus := intset.Union(a, b), intset.Meet(a, b), intset.Minus(a, b)
	for _, law := range []struct {
		name        string
		left, right []int
	}{
		{"Union is commutative", union, intset.Union(b, a)},
		{"Meet is commutative", meet, intset.Meet(b, a)},
		{"Union is associative", intset.Union(union, c), intset.Union(a, intset.Union(b, c))},
		{"Meet is associative", intset.Meet(meet, c), intset.Meet(a, intset.Meet(b, c))},
		{"Meet distributes over Union", intset.Meet(a, intset.Union(b, c)), intset.Union(meet, intset.Meet(a, c))},
		{"Union distributes over Meet", intset.Union(a, intset.Meet(b, c)), intset.Meet(union, intset.Union(a, c))},
		{"Minus and Meet are disjoint", intset.Meet(minus, meet), nil},
		{"Minus and Meet make up the first", intset.Union(minus, meet), intset.Of(a)},
	} {
		if !slices.Equal(law.left, law.right) {
			t.Fatalf("%s: %v, %v, %v: %v, %v", law.name, a, b, c, law.left, law.right)
		}
	}
	if len(union)+len(meet) != len(intset.Of(a))+len(intset.Of(b)) {
		t.Fatalf("the sizes of Union and Meet of %v and %v do not add up: %v, %v", a, b, union, meet)
	}
}

// P6.2: the laws hold for all triples of small sets, of short slices that need not be valid, and for triples of long ones.
func TestLaws(t *testing.T) {
	small := subsets([]int{least, -1, 0, 1, greatest})
	for _, a := range small {
		for _, b := range small {
			for _, c := range small {
				checkLaws(t, a, b, c)
			}
		}
	}
	short := sequences([]int{least, 0, greatest}, 3)
	for _, a := range short {
		for _, b := range short {
			for _, c := range short {
				checkLaws(t, a, b, c)
			}
		}
	}
	pairs := randomPairs()
	for i, p := range pairs {
		checkLaws(t, p[0], p[1], pairs[(i+1)%len(pairs)][0])
	}
}

// P6.3: in a valid slice, what lies between the first index and the result of Seek is less than x, and what lies behind is at least x.
func TestSeekSplits(t *testing.T) {
	all := subsets([]int{least, least + 1, -2, 0, 2, greatest - 1, greatest})
	for _, p := range randomPairs()[:100] {
		all = append(all, intset.Of(p[0]))
	}
	for _, l := range all {
		for _, from := range froms(min(len(l), 20)) {
			for _, x := range append([]int{least, least + 1, -3, -2, -1, 0, 1, 2, 3, greatest - 1, greatest}, l[:min(len(l), 20)]...) {
				at := intset.Seek(l, from, x)
				start := min(max(from, 0), len(l))
				if at < start || at > len(l) {
					t.Fatalf("Seek(%v, %d, %d) = %d", l, from, x, at)
				}
				less := !slices.ContainsFunc(l[start:at], func(y int) bool { return y >= x })
				rest := !slices.ContainsFunc(l[at:], func(y int) bool { return y < x })
				if !less || !rest {
					t.Fatalf("Seek(%v, %d, %d) = %d does not split the slice", l, from, x, at)
				}
			}
		}
	}
}

// P6.1, P6.2: nil and empty slices are equivalent, and equal arguments have equal results.
func TestNilIsEmpty(t *testing.T) {
	for _, l := range sequences([]int{least, 0, greatest}, 3) {
		for i, r := range results(l, nil, []int{}) {
			if !slices.Equal(r, results(l, []int{}, nil)[i]) || !slices.Equal(r, results(slices.Clone(l), nil, nil)[i]) {
				t.Errorf("the result %d of %v differs", i, l)
			}
		}
		for i, r := range results(nil, l, l) {
			if !slices.Equal(r, results([]int{}, l, l)[i]) {
				t.Errorf("the result %d of nil and %v differs", i, l)
			}
		}
	}
}

// P6.1: results are new memory (rule 7 of LANGUAGE.md): whoever changes one changes neither an argument nor another result.
func TestResultsAreNew(t *testing.T) {
	short := sequences([]int{1, 2, 3}, 3)
	for _, a := range short {
		for _, b := range short {
			ga, gb := guarded(a), guarded(b)
			want := results(a, b, b)
			for i := range want {
				got := results(ga, gb, gb)
				disturb(got[i])
				for j := range got {
					if j != i && !slices.Equal(got[j], want[j]) {
						t.Fatalf("of %v and %v, the results %d and %d share memory", a, b, i, j)
					}
				}
				if !unchanged(ga, a) || !unchanged(gb, b) {
					t.Fatalf("the result %d shares memory with its arguments %v and %v", i, a, b)
				}
			}
		}
	}
}
