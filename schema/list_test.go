package schema_test

import (
	"graphdb/api"
	"graphdb/schema"
	"math/rand"
	"slices"
	"testing"
)

// guards are the rules that stand, in the capacity of a guarded list, behind its rules.
var guards = []api.Rule{maxOut("guard", 1), {Kind: -1}, {}}

// guarded returns a list with the rules of s and, behind them in its capacity, rules that no function may change.
func guarded(s []api.Rule) []api.Rule {
	return slices.Concat(s, guards)[:len(s)]
}

// disturb changes every rule of a result and of the capacity behind it, so that memory that the result shares with an argument shows in the argument.
func disturb(s []api.Rule) {
	s = s[:cap(s)]
	for i := range s {
		s[i] = ends("disturbed", "", "")
	}
}

// untouched fails if call, or a change of what it returns, changes the list s that it gets, or what stands behind it.
func untouched(t *testing.T, s []api.Rule, call func(s []api.Rule) []api.Rule) {
	t.Helper()
	l := guarded(s)
	disturb(call(l))
	if !slices.Equal(l, s) || !slices.Equal(l[len(l):len(l)+len(guards)], guards) {
		t.Errorf("the list %+v became %+v, with %+v behind it", s, l, l[len(l):len(l)+len(guards)])
	}
}

// callIs fails if a call of Add or Drop does not return want and err, or not what the promises say of every result, or changes s.
func callIs(t *testing.T, name string, call func(s []api.Rule, r api.Rule) ([]api.Rule, api.Errno), s []api.Rule, r api.Rule, want []api.Rule, err api.Errno) {
	t.Helper()
	checkedCall := func(l []api.Rule) []api.Rule {
		got, e := call(l, r)
		if e != err || !slices.Equal(got, want) {
			t.Errorf("%s(%+v, %+v) = %+v, %d, want %+v, %d", name, s, r, got, e, want, err)
		}
		if err == api.OK && !schema.Valid(got) {
			t.Errorf("%s(%+v, %+v) = %+v, which is no schema", name, s, r, got)
		}
		return got
	}
	untouched(t, s, checkedCall)
	// The same without any capacity behind the rules.
	checkedCall(slices.Clip(slices.Clone(s)))
}

// addIs fails if Add of r to s does not return want and err, or changes s.
func addIs(t *testing.T, s []api.Rule, r api.Rule, want []api.Rule, err api.Errno) {
	t.Helper()
	callIs(t, "Add", schema.Add, s, r, want, err)
}

// dropIs fails if Drop of r from s does not return want and err, or changes s.
func dropIs(t *testing.T, s []api.Rule, r api.Rule, want []api.Rule, err api.Errno) {
	t.Helper()
	callIs(t, "Drop", schema.Drop, s, r, want, err)
}

// validIs fails if Valid of s is not want, or changes s. Where s is no schema, Add and Drop must say so, whatever the rule is.
func validIs(t *testing.T, s []api.Rule, want bool) {
	t.Helper()
	untouched(t, s, func(l []api.Rule) []api.Rule {
		if got := schema.Valid(l); got != want {
			t.Errorf("Valid(%+v) = %t, want %t", s, got, want)
		}
		return nil
	})
	if want {
		return
	}
	rules := append(slices.Clone(s), unique("A", "k"), unique("A", "a"), maxOut("z", 4000), maxOut("z", 4001), unique("A", "9"), api.Rule{})
	for _, r := range rules {
		addIs(t, s, r, nil, api.ErrState)
		dropIs(t, s, r, nil, api.ErrState)
	}
}

// many returns n rules of all kinds in increasing order.
func many(n int) []api.Rule {
	l := []api.Rule{
		unique("A", "a"), unique("A", "b"), unique("A", "c"), unique("B", "a"), unique("B", "b"), unique("C", "a"),
		exists("A", "a"), exists("A", "b"), exists("A", "c"), exists("B", "a"), exists("B", "b"), exists("C", "a"),
		kind("A", "a", api.VBool), kind("A", "a", api.VInt), kind("A", "a", api.VStr), kind("A", "b", api.VBool), kind("B", "a", api.VInt), kind("B", "b", api.VStr),
		edgeExists("T", "a"), edgeExists("T", "b"), edgeExists("U", "a"), edgeExists("U", "b"),
		edgeKind("T", "a", api.VBool), edgeKind("T", "a", api.VInt), edgeKind("T", "a", api.VStr), edgeKind("U", "a", api.VInt),
		ends("T", "", ""), ends("T", "", "A"), ends("T", "", "B"), ends("T", "A", ""), ends("T", "A", "A"), ends("T", "A", "B"), ends("T", "B", ""), ends("U", "", ""),
		maxOut("T", 0), maxOut("T", 1), maxOut("T", 2), maxOut("T", 10), maxOut("T", 4000), maxOut("U", 0), maxOut("U", 3), maxOut("V", 3),
	}
	return l[len(l)-n:]
}

// bad returns rules that Check rejects, with the errors.
func bad() map[api.Rule]api.Errno {
	return map[api.Rule]api.Errno{
		{}:                                     api.ErrArg,
		{Kind: 8, Name: "A", Key: "k"}:         api.ErrArg,
		{Kind: least, Name: "A", Key: "k"}:     api.ErrArg,
		{Kind: greatest, Name: "A", Key: "k"}:  api.ErrArg,
		kind("A", "k", api.VList):              api.ErrArg,
		maxOut("T", -1):                        api.ErrArg,
		maxOut("T", 4001):                      api.ErrArg,
		maxOut("9", 4001):                      api.ErrArg,
		{Kind: api.REnds, Name: "T", Key: "k"}: api.ErrArg,
		unique("", "k"):                        api.ErrName,
		exists("A", ""):                        api.ErrName,
		edgeExists("T", "9"):                   api.ErrName,
		ends("T", "A", "*"):                    api.ErrName,
		maxOut("T 1", 1):                       api.ErrName,
	}
}

// P9.2: ordinary lists.
func TestValid(t *testing.T) {
	all := ordinary()
	validIs(t, nil, true)
	validIs(t, []api.Rule{}, true)
	validIs(t, all[1:], true)
	validIs(t, all[:], false)
	for _, r := range all[1:] {
		validIs(t, []api.Rule{r}, true)
		validIs(t, []api.Rule{r, r}, false)
		validIs(t, []api.Rule{r, r, r}, false)
	}
	for a, x := range all[1:] {
		for b, y := range all[1:] {
			validIs(t, []api.Rule{x, y}, a < b)
		}
	}
	turned := slices.Clone(all[1:])
	slices.Reverse(turned)
	validIs(t, turned, false)
}

// P9.2: up to MaxRules rules, and more.
func TestValidLengths(t *testing.T) {
	for n := range 43 {
		validIs(t, many(n), n <= 40)
	}
	var long []api.Rule
	for n := range 4001 {
		long = append(long, maxOut("T", n))
	}
	for _, n := range []int{0, 1, 39, 40, 41, 42, 80, 81, 256, 1000, 4001} {
		if got := schema.Valid(long[:n]); got != (n <= 40) {
			t.Errorf("Valid of %d rules = %t", n, got)
		}
	}
}

// P9.2: one place, anywhere in a long list, where a rule stands twice, two stand in the wrong order, or one is not valid.
func TestValidAtEachPlace(t *testing.T) {
	for _, n := range []int{1, 2, 3, 39, 40} {
		for at := range n {
			s := many(n)
			s[at].Name = "9"
			validIs(t, s, false)
			s = many(n)
			s[at].N = -1
			validIs(t, s, false)
			s = many(n)
			s[at] = api.Rule{}
			validIs(t, s, false)
			if at > 0 {
				s = many(n)
				s[at] = s[at-1]
				validIs(t, s, false)
				s = many(n)
				s[at-1], s[at] = s[at], s[at-1]
				validIs(t, s, false)
				s = many(n)
				s[0], s[at] = s[at], s[0]
				validIs(t, s, false)
			}
		}
	}
}

// P9.2: rules that Check rejects, in lists that are in order.
func TestValidWithBadRules(t *testing.T) {
	for r := range bad() {
		validIs(t, []api.Rule{r}, false)
		for _, n := range []int{1, 7, 39} {
			s := append(many(n), r)
			slices.SortFunc(s, ordered)
			validIs(t, s, false)
		}
	}
}

// isSchema reports whether s is a schema, as it is defined.
func isSchema(s []api.Rule) bool {
	for i, r := range s {
		for _, x := range s[i+1:] {
			if ordered(r, x) != -1 {
				return false
			}
		}
		if checked(r) != api.OK {
			return false
		}
	}
	return len(s) <= 40
}

// P9.2: all lists of up to four of seven rules, of which one is not valid, with each rule added and dropped.
func TestSmallLists(t *testing.T) {
	rules := []api.Rule{unique("A", "k"), unique("A", "l"), exists("A", "k"), kind("A", "9", api.VInt), ends("T", "", ""), ends("T", "A", ""), maxOut("T", 3)}
	lists := [][]api.Rule{nil}
	for from := 0; len(lists[from]) < 4; from++ {
		for _, r := range rules {
			lists = append(lists, append(slices.Clone(lists[from]), r))
		}
	}
	seen := 0
	for _, s := range lists {
		validIs(t, s, isSchema(s))
		if isSchema(s) {
			seen++
			for _, r := range rules {
				addAndDrop(t, s, r)
			}
		}
	}
	// The subsets of the six valid rules that have at most four elements.
	if seen != 57 {
		t.Errorf("the test had %d schemas", seen)
	}
}

// addAndDrop checks Add and Drop of r with the schema s against their definitions, with a set of rules in the place of a list.
func addAndDrop(t *testing.T, s []api.Rule, r api.Rule) {
	t.Helper()
	others := slices.DeleteFunc(slices.Clone(s), func(x api.Rule) bool { return x == r })
	isThere := len(others) < len(s)
	both := append(others, r)
	slices.SortFunc(both, ordered)
	switch {
	case checked(r) != api.OK:
		addIs(t, s, r, nil, checked(r))
		dropIs(t, s, r, nil, checked(r))
	case isThere:
		addIs(t, s, r, nil, api.ErrTwice)
		dropIs(t, s, r, slices.DeleteFunc(slices.Clone(s), func(x api.Rule) bool { return x == r }), api.OK)
	case len(s) == 40:
		addIs(t, s, r, nil, api.ErrFull)
		dropIs(t, s, r, nil, api.ErrNone)
	default:
		addIs(t, s, r, both, api.OK)
		dropIs(t, s, r, nil, api.ErrNone)
	}
}

// P9.2: ordinary rules, as the chapter adds them.
func TestAdd(t *testing.T) {
	u, x := unique("A", "k"), exists("A", "k")
	for _, none := range [][]api.Rule{nil, {}} {
		addIs(t, none, u, []api.Rule{u}, api.OK)
		addIs(t, none, x, []api.Rule{x}, api.OK)
	}
	addIs(t, []api.Rule{u}, x, []api.Rule{u, x}, api.OK)
	addIs(t, []api.Rule{x}, u, []api.Rule{u, x}, api.OK)
	addIs(t, []api.Rule{u}, u, nil, api.ErrTwice)
	addIs(t, []api.Rule{u, x}, u, nil, api.ErrTwice)
	addIs(t, []api.Rule{u, x}, x, nil, api.ErrTwice)
	addIs(t, []api.Rule{x, u}, u, nil, api.ErrState)
	addIs(t, []api.Rule{u, x}, unique("A", "l"), []api.Rule{u, unique("A", "l"), x}, api.OK)
	addIs(t, []api.Rule{u, x}, unique("A", "j"), []api.Rule{unique("A", "j"), u, x}, api.OK)
	addIs(t, []api.Rule{u, x}, exists("B", "k"), []api.Rule{u, x, exists("B", "k")}, api.OK)
}

// P9.2: ordinary rules.
func TestDrop(t *testing.T) {
	u, x, m := unique("A", "k"), exists("A", "k"), maxOut("T", 3)
	for _, none := range [][]api.Rule{nil, {}} {
		dropIs(t, none, u, nil, api.ErrNone)
		dropIs(t, none, unique("9", "k"), nil, api.ErrName)
	}
	dropIs(t, []api.Rule{u}, u, nil, api.OK)
	dropIs(t, []api.Rule{u}, x, nil, api.ErrNone)
	dropIs(t, []api.Rule{x}, u, nil, api.ErrNone)
	dropIs(t, []api.Rule{u, x, m}, u, []api.Rule{x, m}, api.OK)
	dropIs(t, []api.Rule{u, x, m}, x, []api.Rule{u, m}, api.OK)
	dropIs(t, []api.Rule{u, x, m}, m, []api.Rule{u, x}, api.OK)
	dropIs(t, []api.Rule{x, u}, u, nil, api.ErrState)
	dropIs(t, []api.Rule{u, u}, u, nil, api.ErrState)
}

// P9.2: rules that differ in one field only from those that are there.
func TestNearlyTheSame(t *testing.T) {
	all := ordinary()
	s := all[1:]
	for _, r := range s {
		var near []api.Rule
		for field := range 4 {
			for _, word := range []string{"", "Q", "k", "q_0"} {
				x := r
				*stringOf(&x, field) = word
				near = append(near, x)
			}
		}
		for _, n := range []int{-1, 0, 1, 2, 3, 4, 4000, 4001} {
			x, y := r, r
			x.N, y.Kind = n, n
			near = append(near, x, y)
		}
		for _, x := range near {
			addAndDrop(t, s, x)
		}
	}
}

// P9.2, P9.5: each place of lists of all lengths: what Add puts there Drop takes away, and the other way round.
func TestEachPlace(t *testing.T) {
	for n := 1; n <= 40; n++ {
		all := many(n)
		for at, r := range all {
			rest := slices.Delete(slices.Clone(all), at, at+1)
			addIs(t, rest, r, all, api.OK)
			dropIs(t, all, r, rest, api.OK)
			addAndDrop(t, all, r)
			addAndDrop(t, rest, r)
		}
	}
}

// P9.2: the order of the errors, in the empty schema, in others and in a full one.
func TestFirstError(t *testing.T) {
	for r, err := range bad() {
		for _, n := range []int{0, 1, 39, 40} {
			addIs(t, many(n), r, nil, err)
			dropIs(t, many(n), r, nil, err)
		}
	}
	full := many(40)
	for _, r := range full {
		addIs(t, full, r, nil, api.ErrTwice)
	}
	// The first, a middle and the last place.
	for _, r := range []api.Rule{unique("A", "A"), edgeKind("T", "w", api.VInt), maxOut("z", 0)} {
		addIs(t, full, r, nil, api.ErrFull)
		dropIs(t, full, r, nil, api.ErrNone)
		addIs(t, many(41), r, nil, api.ErrState)
		dropIs(t, many(41), r, nil, api.ErrState)
	}
	tooMany := many(41)
	for _, r := range tooMany {
		addIs(t, tooMany, r, nil, api.ErrState)
		dropIs(t, tooMany, r, nil, api.ErrState)
	}
}

// someRule returns a pseudorandom rule, which is seldom not valid.
func someRule(source *rand.Rand) api.Rule {
	pick := func(l ...string) string { return l[source.Intn(len(l))] }
	r := api.Rule{Kind: 1 + source.Intn(7), Name: pick("A", "B", "T", "edge")}
	if isUsed(r.Kind, "Key") {
		r.Key = pick("k", "l", "kind")
	}
	if isUsed(r.Kind, "From") {
		r.From, r.To = pick("", "A", "B", "bool"), pick("", "A", "B", "int")
	}
	if isUsed(r.Kind, "N") {
		r.N = []int{1, 2, 4}[source.Intn(3)]
	}
	if source.Intn(20) == 0 {
		*stringOf(&r, source.Intn(4)) = pick("", "9", "A", "*")
	}
	if source.Intn(20) == 0 {
		r.N = source.Intn(11) - 1
	}
	return r
}

// P9.2, P9.5: schemas that pseudorandom rules are added to and dropped from, one after the other.
func TestManySteps(t *testing.T) {
	source := rand.New(rand.NewSource(92))
	seen := map[api.Errno]int{}
	for range 40 {
		var s []api.Rule
		// Rules are added most of the time, until the schema is full.
		for range 300 {
			r := someRule(source)
			addAndDrop(t, s, r)
			l, err := schema.Add(s, r)
			if source.Intn(4) == 0 {
				l, err = schema.Drop(s, r)
			}
			seen[err]++
			if err == api.OK {
				s = l
			}
		}
	}
	for _, err := range []api.Errno{api.OK, api.ErrArg, api.ErrName, api.ErrTwice, api.ErrFull, api.ErrNone} {
		if seen[err] < 20 {
			t.Errorf("the test had too few steps with the error %d", err)
		}
	}
}

// P9.5: of any schema and rule: what Add returns is a schema from which Drop makes the first one again, and the other way round.
func TestAddAndDropUndoEachOther(t *testing.T) {
	source := rand.New(rand.NewSource(95))
	added, dropped := 0, 0
	for range 3000 {
		var s []api.Rule
		for range source.Intn(45) {
			if l, err := schema.Add(s, someRule(source)); err == api.OK {
				s = l
			}
		}
		before := slices.Clone(s)
		r := someRule(source)
		if l, err := schema.Add(s, r); err == api.OK {
			added++
			back, e := schema.Drop(l, r)
			if !schema.Valid(l) || len(l) != len(s)+1 || e != api.OK || !slices.Equal(back, before) {
				t.Fatalf("Add(%+v, %+v) = %+v, from which Drop makes %+v, %d", s, r, l, back, e)
			}
		}
		if l, err := schema.Drop(s, r); err == api.OK {
			dropped++
			back, e := schema.Add(l, r)
			if !schema.Valid(l) || len(l) != len(s)-1 || e != api.OK || !slices.Equal(back, before) {
				t.Fatalf("Drop(%+v, %+v) = %+v, from which Add makes %+v, %d", s, r, l, back, e)
			}
		}
		if !slices.Equal(s, before) {
			t.Fatalf("the schema %+v became %+v", before, s)
		}
	}
	if added < 500 || dropped < 300 {
		t.Errorf("the test had only %d rules added and %d dropped", added, dropped)
	}
}

// P9.2: arguments that are equal give equal results, whether the lists share memory or not.
func TestEqualCalls(t *testing.T) {
	s, r := many(20), unique("Q", "q")
	first, _ := schema.Add(s, r)
	kept := slices.Clone(first)
	second, _ := schema.Add(s, unique("R", "r"))
	third, _ := schema.Drop(first, r)
	fourth, _ := schema.Drop(first, s[0])
	disturb(second)
	disturb(third)
	disturb(fourth)
	if again, err := schema.Add(s, r); err != api.OK || !slices.Equal(first, kept) || !slices.Equal(again, kept) {
		t.Errorf("Add returned %+v at first, which is %+v now, and %+v, %d at last", kept, first, again, err)
	}
}
