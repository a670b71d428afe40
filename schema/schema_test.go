package schema_test

import (
	"graphdb/api"
	"graphdb/schema"
	"math"
	"regexp"
	"strings"
	"testing"
)

// least and greatest are the ends of int.
const (
	least    = math.MinInt
	greatest = math.MaxInt
)

// These write rules as api has them.
func unique(name, key string) api.Rule {
	return api.Rule{Kind: api.RUnique, Name: name, Key: key}
}
func exists(name, key string) api.Rule {
	return api.Rule{Kind: api.RExists, Name: name, Key: key}
}
func kind(name, key string, n int) api.Rule {
	return api.Rule{Kind: api.RKind, Name: name, Key: key, N: n}
}
func edgeExists(name, key string) api.Rule {
	return api.Rule{Kind: api.REdgeExists, Name: name, Key: key}
}
func edgeKind(name, key string, n int) api.Rule {
	return api.Rule{Kind: api.REdgeKind, Name: name, Key: key, N: n}
}
func ends(name, from, to string) api.Rule {
	return api.Rule{Kind: api.REnds, Name: name, From: from, To: to}
}
func maxOut(name string, n int) api.Rule {
	return api.Rule{Kind: api.RMaxOut, Name: name, N: n}
}

// ordinary returns a rule of each kind at its index, and one that is not valid at the index 0.
func ordinary() [8]api.Rule {
	return [8]api.Rule{{}, unique("A", "k"), exists("B", "m"), kind("C", "n", api.VStr), edgeExists("T", "w"), edgeKind("U", "v", api.VInt), ends("V", "A", "B"), maxOut("W", 3)}
}

// uses holds the names of the fields that a kind of rules uses, as the table of the chapter lists them.
var uses = map[int]string{
	api.RUnique:     "Name, Key",
	api.RExists:     "Name, Key",
	api.RKind:       "Name, Key, N",
	api.REdgeExists: "Name, Key",
	api.REdgeKind:   "Name, Key, N",
	api.REnds:       "Name, From, To",
	api.RMaxOut:     "Name, N",
}

// isUsed reports whether the rules of a kind use that field.
func isUsed(kind int, field string) bool {
	for _, f := range strings.Split(uses[kind], ", ") {
		if f == field {
			return true
		}
	}
	return false
}

// notKinds are integers that are no kinds of rules.
var notKinds = []int{0, 8, 9, 10, -1, -2, -7, 14, 15, 16, 257, 263, 1 << 32, 1<<32 + 1, least, least + 1, greatest - 1, greatest}

// someNumbers are integers of all sizes but 0.
var someNumbers = []int{1, 2, 3, 4, 5, 8, -1, -4, 100, 4000, 4001, 1 << 32, 1<<32 + 2, least, greatest}

// notNames are strings that are no names.
var notNames = []string{"", "_", "9", "_a", "0a", "*", "a*", " ", "a ", " a", "a b", "a-b", "a.b", "é", "aé", "a\n", "a\x00", "\xff", "a\xff", "@", "[", "`", "{", "a@", "a[", "a`", "a{", "a/", "a:", strings.Repeat("x", 21), strings.Repeat("x", 22), strings.Repeat("x", 276), strings.Repeat("é", 10)}

// someNames are names.
var someNames = []string{"a", "A", "z", "Z", "k1", "a_", "A_b_9", "z0", "null", "MATCH", "unique", "edge", "bool", strings.Repeat("x", 19), strings.Repeat("x", 20), strings.Repeat("Z9_z", 5)}

// checkIs fails if Check of r is not want, or if Text is empty though want is OK, or the other way round.
func checkIs(t *testing.T, r api.Rule, want api.Errno) {
	t.Helper()
	if got := schema.Check(r); got != want {
		t.Errorf("Check(%+v) = %d, want %d", r, got, want)
	}
	if got := schema.Text(r); (got == "") != (want != api.OK) {
		t.Errorf("Text(%+v) = %q, where Check is to be %d", r, got, want)
	}
}

// P9.1: an ordinary rule of each kind, and the rules that the chapter writes.
func TestCheckOrdinary(t *testing.T) {
	for k, r := range ordinary() {
		if k > 0 {
			checkIs(t, r, api.OK)
		}
	}
	checkIs(t, unique("A", "k"), api.OK)
	checkIs(t, exists("A", "k"), api.OK)
	checkIs(t, ends("KNOWS", "Person", ""), api.OK)
	checkIs(t, ends("T", "", "B"), api.OK)
	checkIs(t, api.Rule{}, api.ErrArg)
	checkIs(t, api.Rule{Kind: api.REnds, Name: "T", Key: "k"}, api.ErrArg)
	checkIs(t, api.Rule{Kind: api.REnds, Name: "", Key: "k"}, api.ErrArg)
	checkIs(t, api.Rule{Kind: api.REnds, Name: "1T", Key: "k"}, api.ErrArg)
}

// P9.1: integers that are no kind, with the fields of every kind.
func TestCheckKinds(t *testing.T) {
	for _, k := range notKinds {
		for _, r := range ordinary() {
			r.Kind = k
			checkIs(t, r, api.ErrArg)
		}
	}
}

// P9.1: each kind with the fields of each other kind.
func TestCheckFieldsOfOtherKinds(t *testing.T) {
	for a, r := range ordinary() {
		for b := range ordinary() {
			if a == 0 || b == 0 {
				continue
			}
			r.Kind = b
			checkIs(t, r, checked(r))
			if uses[a] == uses[b] {
				checkIs(t, r, api.OK)
			}
		}
	}
	// What is left out is no name, or no kind of values; what is too much is an error of another sort.
	checkIs(t, api.Rule{Kind: api.RUnique, Name: "A"}, api.ErrName)
	checkIs(t, api.Rule{Kind: api.RExists, Key: "k"}, api.ErrName)
	checkIs(t, api.Rule{Kind: api.RKind, Name: "A", Key: "k"}, api.ErrArg)
	checkIs(t, api.Rule{Kind: api.REdgeKind, Name: "A", Key: "k"}, api.ErrArg)
	checkIs(t, api.Rule{Kind: api.RKind, Name: "A", N: api.VInt}, api.ErrName)
	checkIs(t, api.Rule{Kind: api.REnds, Name: "T"}, api.OK)
	checkIs(t, api.Rule{Kind: api.RMaxOut, Name: "T"}, api.OK)
	for k := api.RUnique; k <= api.RMaxOut; k++ {
		want := api.ErrName
		if k == api.RKind || k == api.REdgeKind {
			want = api.ErrArg
		}
		checkIs(t, api.Rule{Kind: k}, want)
	}
}

// P9.1: fields that a kind does not use and that are not zero.
func TestCheckUnusedFields(t *testing.T) {
	for k, r := range ordinary() {
		if k == 0 {
			continue
		}
		for _, s := range append(append([]string{}, someNames...), notNames[1:]...) {
			key, from, to, both := r, r, r, r
			key.Key, from.From, to.To = s, s, s
			both.From, both.To = s, s
			if !isUsed(k, "Key") {
				checkIs(t, key, api.ErrArg)
			}
			if !isUsed(k, "From") {
				checkIs(t, from, api.ErrArg)
				checkIs(t, to, api.ErrArg)
				checkIs(t, both, api.ErrArg)
			}
		}
		for _, n := range someNumbers {
			if d := r; !isUsed(k, "N") {
				d.N = n
				checkIs(t, d, api.ErrArg)
			}
		}
	}
}

// P9.1: N of all kinds of values, and of other numbers, for the kinds of rules that ask for one.
func TestCheckValueKinds(t *testing.T) {
	for _, k := range []int{api.RKind, api.REdgeKind} {
		for _, n := range []int{api.VBool, api.VInt, api.VStr} {
			checkIs(t, api.Rule{Kind: k, Name: "A", Key: "k", N: n}, api.OK)
		}
		for _, n := range []int{api.VNull, api.VRat, api.VNode, api.VEdge, api.VPath, api.VList, 9, 10, -1, -2, -4, 4000, 4001, 1<<32 + 1, 1<<32 + 2, 1<<32 + 4, least, least + 1, greatest - 1, greatest} {
			checkIs(t, api.Rule{Kind: k, Name: "A", Key: "k", N: n}, api.ErrArg)
			checkIs(t, api.Rule{Kind: k, Name: "9", Key: "k", N: n}, api.ErrArg)
			checkIs(t, api.Rule{Kind: k, Name: "A", Key: "9", N: n}, api.ErrArg)
		}
	}
}

// P9.1: N of RMaxOut, at both ends of its range and beyond.
func TestCheckCounts(t *testing.T) {
	for n := range 4001 {
		checkIs(t, maxOut("T", n), api.OK)
	}
	for _, n := range []int{-1, -2, -4000, 4001, 4002, 8000, 1 << 32, 1<<32 + 1, least, least + 1, greatest - 1, greatest} {
		checkIs(t, maxOut("T", n), api.ErrArg)
		checkIs(t, maxOut("9", n), api.ErrArg)
	}
}

// P9.1: Name and Key.
func TestCheckNames(t *testing.T) {
	for k, r := range ordinary() {
		if k == 0 {
			continue
		}
		for _, s := range someNames {
			name, key := r, r
			name.Name, key.Key = s, s
			checkIs(t, name, api.OK)
			if isUsed(k, "Key") {
				checkIs(t, key, api.OK)
			}
		}
		for _, s := range notNames {
			name, key := r, r
			name.Name, key.Key = s, s
			checkIs(t, name, api.ErrName)
			if isUsed(k, "Key") {
				checkIs(t, key, api.ErrName)
			}
		}
	}
}

// P9.1: From and To, each of which is empty or a name.
func TestCheckEnds(t *testing.T) {
	may := append([]string{""}, someNames...)
	for _, from := range may {
		for _, to := range may {
			checkIs(t, ends("T", from, to), api.OK)
			checkIs(t, ends("", from, to), api.ErrName)
		}
		for _, s := range notNames[1:] {
			checkIs(t, ends("T", from, s), api.ErrName)
			checkIs(t, ends("T", s, from), api.ErrName)
			checkIs(t, ends("T", s, s), api.ErrName)
		}
	}
}

// P9.1: more than one error: a field too many and a wrong number come before a wrong name, wherever that stands.
func TestCheckFirstError(t *testing.T) {
	for _, r := range []api.Rule{
		{Kind: 8, Name: "9"},
		{Kind: 0, Name: "9", Key: "9"},
		{Kind: api.RUnique, Name: "9", Key: "k", N: 1},
		{Kind: api.RUnique, Name: "A", Key: "9", N: -1},
		{Kind: api.RUnique, Name: "9", Key: "9", From: "A"},
		{Kind: api.RUnique, Name: "A", Key: "", To: "A"},
		{Kind: api.RExists, Name: "", Key: "", N: 4001},
		{Kind: api.RExists, Name: "9", Key: "k", To: "9"},
		{Kind: api.RKind, Name: "9", Key: "k", N: api.VRat},
		{Kind: api.RKind, Name: "A", Key: "9", N: 0},
		{Kind: api.RKind, Name: "9", Key: "k", N: api.VInt, From: "A"},
		{Kind: api.RKind, Name: "9", Key: "9", N: 0, To: "9"},
		{Kind: api.REdgeExists, Name: "9", Key: "k", N: 2},
		{Kind: api.REdgeExists, Name: "T", Key: "9", From: "9"},
		{Kind: api.REdgeKind, Name: "9", Key: "k", N: api.VList},
		{Kind: api.REdgeKind, Name: "T", Key: "9", N: api.VStr, To: "B"},
		{Kind: api.REnds, Name: "9", Key: "k"},
		{Kind: api.REnds, Name: "9", N: 1},
		{Kind: api.REnds, Name: "T", Key: "9", From: "9"},
		{Kind: api.REnds, Name: "T", Key: "k", To: "9"},
		{Kind: api.REnds, Name: "T", N: -1, From: "9", To: "9"},
		{Kind: api.RMaxOut, Name: "9", N: -1},
		{Kind: api.RMaxOut, Name: "9", N: 4001},
		{Kind: api.RMaxOut, Name: "9", N: 1, Key: "k"},
		{Kind: api.RMaxOut, Name: "", N: 1, From: "A"},
		{Kind: api.RMaxOut, Name: "", N: 1, To: "A"},
	} {
		checkIs(t, r, api.ErrArg)
	}
}

// names matches what the document calls a name.
var names = regexp.MustCompile(`^[a-zA-Z][a-zA-Z0-9_]{0,19}$`)

// checked returns what Check is defined to return.
func checked(r api.Rule) api.Errno {
	if uses[r.Kind] == "" {
		return api.ErrArg
	}
	used := map[string]bool{}
	for _, f := range strings.Split(uses[r.Kind], ", ") {
		used[f] = true
	}
	zero := map[string]bool{"N": r.N == 0, "Name": r.Name == "", "Key": r.Key == "", "From": r.From == "", "To": r.To == ""}
	for f, isZero := range zero {
		if !used[f] && !isZero {
			return api.ErrArg
		}
	}
	switch r.Kind {
	case 3, 5:
		if r.N != 1 && r.N != 2 && r.N != 4 {
			return api.ErrArg
		}
	case 7:
		if r.N < 0 || r.N > 4000 {
			return api.ErrArg
		}
	}
	if !names.MatchString(r.Name) {
		return api.ErrName
	}
	if used["Key"] && !names.MatchString(r.Key) {
		return api.ErrName
	}
	if used["From"] && (r.From != "" && !names.MatchString(r.From) || r.To != "" && !names.MatchString(r.To)) {
		return api.ErrName
	}
	return api.OK
}

// anyRules returns rules of all kinds, of which few are valid.
func anyRules() []api.Rule {
	var all []api.Rule
	strs := []string{"", "k", "9", strings.Repeat("x", 20)}
	for _, kind := range []int{least, -7, -1, 0, 1, 2, 3, 4, 5, 6, 7, 8, greatest} {
		for _, n := range []int{least, -1, 0, 1, 2, 3, 4, 5, 8, 4000, 4001, greatest} {
			for _, name := range []string{"", "A", "9", "edge", strings.Repeat("x", 20), strings.Repeat("x", 21)} {
				for _, key := range strs {
					for _, from := range strs {
						for _, to := range strs {
							all = append(all, api.Rule{Kind: kind, N: n, Name: name, Key: key, From: from, To: to})
						}
					}
				}
			}
		}
	}
	return all
}

// P9.1: Check and Text of rules of all kinds, valid and not.
func TestCheckAndTextOfAnyRule(t *testing.T) {
	for _, r := range anyRules() {
		want := checked(r)
		if got := schema.Check(r); got != want {
			t.Fatalf("Check(%+v) = %d, want %d", r, got, want)
		}
		text := ""
		if want == api.OK {
			text = textOf(r)
		}
		if got := schema.Text(r); got != text {
			t.Fatalf("Text(%+v) = %q, want %q", r, got, text)
		}
	}
}

// P9.1: each kind, and integers that are none.
func TestFault(t *testing.T) {
	want := map[int]api.Errno{
		api.RUnique:     api.ErrUnique,
		api.RExists:     api.ErrExists,
		api.RKind:       api.ErrKind,
		api.REdgeExists: api.ErrExists,
		api.REdgeKind:   api.ErrKind,
		api.REnds:       api.ErrEnds,
		api.RMaxOut:     api.ErrDegree,
	}
	for k, err := range want {
		if got := schema.Fault(k); got != err {
			t.Errorf("Fault(%d) = %d, want %d", k, got, err)
		}
	}
	for _, k := range notKinds {
		if got := schema.Fault(k); got != api.OK {
			t.Errorf("Fault(%d) = %d, want OK", k, got)
		}
	}
}
