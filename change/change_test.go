package change_test

import (
	"fmt"
	"graphdb/api"
	"graphdb/change"
	"graphdb/value"
	"math"
	"reflect"
	"regexp"
	"strings"
	"testing"
)

const m = api.MaxInt

// least and greatest are the ends of int.
const (
	least    = math.MinInt
	greatest = math.MaxInt
)

// These write values as api has them.
var null = api.Value{}

func boolean(n int) api.Value       { return api.Value{Kind: api.VBool, N: n} }
func integer(n int) api.Value       { return api.Value{Kind: api.VInt, N: n} }
func ratio(n, d int) api.Value      { return api.Value{Kind: api.VRat, N: n, D: d} }
func str(s string) api.Value        { return api.Value{Kind: api.VStr, S: s} }
func node(n int) api.Value          { return api.Value{Kind: api.VNode, N: n} }
func edge(n int) api.Value          { return api.Value{Kind: api.VEdge, N: n} }
func list(l ...api.Value) api.Value { return api.Value{Kind: api.VList, L: l} }
func path(l ...api.Value) api.Value { return api.Value{Kind: api.VPath, L: l} }

// hollow returns v with an empty list that is not nil, which is the same value.
func hollow(v api.Value) api.Value {
	v.L = []api.Value{}
	return v
}

// These write changes as api has them.
func addNode(id int) api.Change            { return api.Change{Op: api.AddNode, Id: id} }
func delNode(id int) api.Change            { return api.Change{Op: api.DelNode, Id: id} }
func addLabel(id int, s string) api.Change { return api.Change{Op: api.AddLabel, Id: id, Name: s} }
func delLabel(id int, s string) api.Change { return api.Change{Op: api.DelLabel, Id: id, Name: s} }
func setNode(id int, key string, v api.Value) api.Change {
	return api.Change{Op: api.SetNode, Id: id, Name: key, V: v}
}
func addEdge(id, from, to int, kind string) api.Change {
	return api.Change{Op: api.AddEdge, Id: id, From: from, To: to, Name: kind}
}
func delEdge(id int) api.Change { return api.Change{Op: api.DelEdge, Id: id} }
func setEdge(id int, key string, v api.Value) api.Change {
	return api.Change{Op: api.SetEdge, Id: id, Name: key, V: v}
}

// ordinary returns a change of each Op at its index, and one that is not valid at the index 0.
func ordinary() [9]api.Change {
	return [9]api.Change{{}, addNode(1), delNode(2), addLabel(3, "A"), delLabel(4, "B"), setNode(5, "k", integer(7)), addEdge(6, 8, 9, "T"), delEdge(7), setEdge(8, "w", str("x"))}
}

// plain returns values that can be stored.
func plain() []api.Value {
	return []api.Value{boolean(0), boolean(1), integer(0), integer(-1), integer(m), integer(-m), str(""), str("a"), str(" ~"), str("it's"), str(strings.Repeat("'", 100)), hollow(integer(1)), hollow(str(""))}
}

// odd returns values that are neither null nor can be stored, of which some are not valid.
func odd() []api.Value {
	return []api.Value{
		ratio(1, 2), node(1), edge(2), path(node(1)), path(node(1), edge(2), node(3)), list(), list(null), list(integer(1)),
		{N: 1}, {N: -1}, {D: 1}, {S: "a"}, {S: " "}, {L: []api.Value{null}}, {N: least}, {D: greatest},
		boolean(2), boolean(-1), integer(m + 1), integer(-m - 1), integer(least), integer(greatest), str(strings.Repeat("a", 101)), str("\x1f"), str("\x7f"), str("é"), ratio(2, 4), ratio(1, 1), ratio(1, 0), node(0), edge(0), path(), list(list(integer(m + 1))),
		{Kind: api.VBool, D: 1}, {Kind: api.VBool, S: "a"}, {Kind: api.VInt, N: 1, D: 1}, {Kind: api.VInt, S: "1"}, {Kind: api.VInt, L: []api.Value{null}}, {Kind: api.VStr, N: 1, S: "a"}, {Kind: api.VStr, S: "a", L: []api.Value{null}}, {Kind: -1}, {Kind: 9}, {Kind: least}, {Kind: greatest},
	}
}

// notOps are integers that are no Op.
var notOps = []int{0, 9, 10, -1, -2, -8, 16, 17, 257, 264, 1 << 32, 1<<32 + 1, least, least + 1, greatest - 1, greatest}

// notIds are integers that are no ids.
var notIds = []int{0, -1, -1000000, 1000001, 1000002, 2000000, 1<<32 + 1, least, least + 1, greatest - 1, greatest}

// someIds are ids, with both ends of their range.
var someIds = []int{1, 2, 9, 999999, 1000000}

// notNames are strings that are no names.
var notNames = []string{"", "_", "9", "_a", "0a", " ", "a ", " a", "a b", "a-b", "é", "aé", "a\n", "a\x00", "\xff", "a\xff", "'a'", strings.Repeat("x", 21), strings.Repeat("x", 22), strings.Repeat("x", 276), strings.Repeat("é", 10)}

// someNames are names.
var someNames = []string{"a", "A", "z", "Z", "k1", "a_", "A_b_9", "null", "MATCH", strings.Repeat("x", 19), strings.Repeat("x", 20), strings.Repeat("Z9_z", 5)}

// uses holds the names of the fields that an Op uses, as the table of the chapter lists them.
var uses = map[int]string{
	api.AddNode:  "Id",
	api.DelNode:  "Id",
	api.AddLabel: "Id, Name",
	api.DelLabel: "Id, Name",
	api.SetNode:  "Id, Name, V",
	api.AddEdge:  "Id, From, To, Name",
	api.DelEdge:  "Id",
	api.SetEdge:  "Id, Name, V",
}

// checkIs fails if Check of c is not want, or if Text is empty though want is OK, or the other way round.
func checkIs(t *testing.T, c api.Change, want api.Errno) {
	t.Helper()
	if got := change.Check(c); got != want {
		t.Errorf("Check(%+v) = %d, want %d", c, got, want)
	}
	if got := change.Text(c); (got == "") != (want != api.OK) {
		t.Errorf("Text(%+v) = %q, where Check is to be %d", c, got, want)
	}
}

// P8.1: an ordinary change of each Op.
func TestCheckOrdinary(t *testing.T) {
	for op, c := range ordinary() {
		if op > 0 {
			checkIs(t, c, api.OK)
		}
	}
}

// P8.1: integers that are no Op, with the fields of every Op.
func TestCheckOps(t *testing.T) {
	for _, op := range notOps {
		for _, c := range ordinary() {
			c.Op = op
			checkIs(t, c, api.ErrArg)
		}
	}
	// Each Op with the fields of each other: one that uses more fields lacks them, one that uses fewer has too many.
	for a, c := range ordinary() {
		for b := range ordinary() {
			if a == 0 || b == 0 {
				continue
			}
			c.Op = b
			want := api.OK
			if uses[a] != uses[b] {
				want = api.ErrArg
			}
			if uses[a] == "Id, Name" && uses[b] == "Id, Name, V" {
				// V is null, which SetNode and SetEdge take.
				want = api.OK
			}
			if uses[a] == "Id" && (uses[b] == "Id, Name" || uses[b] == "Id, Name, V") {
				want = api.ErrName
			}
			checkIs(t, c, want)
		}
	}
}

// P8.1: the ids that an Op uses, at both ends of their range and beyond.
func TestCheckIds(t *testing.T) {
	for op, c := range ordinary() {
		if op == 0 {
			continue
		}
		for _, id := range someIds {
			d := c
			d.Id = id
			checkIs(t, d, api.OK)
		}
		for _, id := range notIds {
			d := c
			d.Id = id
			checkIs(t, d, api.ErrArg)
		}
	}
	for _, id := range someIds {
		checkIs(t, addEdge(1, id, 1, "T"), api.OK)
		checkIs(t, addEdge(1, 1, id, "T"), api.OK)
		checkIs(t, addEdge(id, id, id, "T"), api.OK)
	}
	for _, id := range notIds {
		checkIs(t, addEdge(1, id, 1, "T"), api.ErrArg)
		checkIs(t, addEdge(1, 1, id, "T"), api.ErrArg)
		checkIs(t, addEdge(1, id, id, "T"), api.ErrArg)
		checkIs(t, addEdge(id, id, id, "T"), api.ErrArg)
	}
}

// P8.1: fields that an Op does not use.
func TestCheckUnusedFields(t *testing.T) {
	for op, c := range ordinary() {
		if op == 0 {
			continue
		}
		for _, n := range []int{1, 2, -1, 1000000, 1000001, 1 << 32, least, greatest} {
			from, to, both := c, c, c
			from.From, to.To, both.From, both.To = n, n, n, -n
			if op != api.AddEdge {
				checkIs(t, from, api.ErrArg)
				checkIs(t, to, api.ErrArg)
				checkIs(t, both, api.ErrArg)
			}
		}
		if !strings.Contains(uses[op], "Name") {
			for _, s := range append(append([]string{}, someNames...), notNames[1:]...) {
				d := c
				d.Name = s
				checkIs(t, d, api.ErrArg)
			}
		}
		if !strings.Contains(uses[op], "V") {
			for _, v := range append(plain(), odd()...) {
				d := c
				d.V = v
				checkIs(t, d, api.ErrArg)
			}
		}
	}
}

// P8.1: null, told in more than one way, whether an Op uses V or not.
func TestCheckNull(t *testing.T) {
	for op, c := range ordinary() {
		if op == 0 {
			continue
		}
		for _, v := range []api.Value{null, value.Null(), hollow(null), {L: make([]api.Value, 0, 3)}} {
			c.V = v
			checkIs(t, c, api.OK)
		}
	}
}

// P8.1: names of labels, keys and types.
func TestCheckNames(t *testing.T) {
	for op, c := range ordinary() {
		if op == 0 || !strings.Contains(uses[op], "Name") {
			continue
		}
		for _, s := range someNames {
			c.Name = s
			checkIs(t, c, api.OK)
		}
		for _, s := range notNames {
			c.Name = s
			checkIs(t, c, api.ErrName)
		}
	}
}

// P8.1: values that can be stored, and all others.
func TestCheckValues(t *testing.T) {
	for _, op := range []int{api.SetNode, api.SetEdge} {
		for _, v := range plain() {
			checkIs(t, api.Change{Op: op, Id: 1, Name: "k", V: v}, api.OK)
		}
		for _, v := range odd() {
			checkIs(t, api.Change{Op: op, Id: 1, Name: "k", V: v}, api.ErrType)
		}
	}
}

// P8.1: more than one error: an argument comes first, then the name, then the value.
func TestCheckFirstError(t *testing.T) {
	for _, c := range []struct {
		c    api.Change
		want api.Errno
	}{
		{api.Change{}, api.ErrArg},
		{api.Change{Op: 9, Id: 1, Name: "9", V: node(1)}, api.ErrArg},
		{api.Change{Op: api.SetNode}, api.ErrArg},
		{api.Change{Op: api.AddLabel}, api.ErrArg},
		{api.Change{Op: api.SetNode, Id: 0, Name: "9", V: node(1)}, api.ErrArg},
		{api.Change{Op: api.SetNode, Id: 1000001, Name: "k", V: node(1)}, api.ErrArg},
		{api.Change{Op: api.SetNode, Id: 1, From: 1, Name: "9", V: node(1)}, api.ErrArg},
		{api.Change{Op: api.SetEdge, Id: 1, To: 1, Name: "k", V: node(1)}, api.ErrArg},
		{api.Change{Op: api.SetNode, Id: 1, Name: "9", V: node(1)}, api.ErrName},
		{api.Change{Op: api.SetEdge, Id: 1, Name: "", V: integer(m + 1)}, api.ErrName},
		{api.Change{Op: api.SetEdge, Id: 1, Name: "9"}, api.ErrName},
		{api.Change{Op: api.SetEdge, Id: 1, Name: "k", V: integer(m + 1)}, api.ErrType},
		{api.Change{Op: api.AddLabel, Id: 1, Name: "9", V: integer(1)}, api.ErrArg},
		{api.Change{Op: api.AddLabel, Id: 1, Name: "9", V: node(1)}, api.ErrArg},
		{api.Change{Op: api.DelLabel, Id: 1, Name: "9", V: api.Value{N: 1}}, api.ErrArg},
		{api.Change{Op: api.DelLabel, Id: 1, From: 1, Name: "9"}, api.ErrArg},
		{api.Change{Op: api.DelLabel, Id: 0, Name: "9"}, api.ErrArg},
		{api.Change{Op: api.AddEdge, Id: 1, From: 1, To: 0, Name: "9"}, api.ErrArg},
		{api.Change{Op: api.AddEdge, Id: 1, From: 0, To: 1, Name: "9"}, api.ErrArg},
		{api.Change{Op: api.AddEdge, Id: 1, From: 1, To: 1, Name: "9", V: integer(1)}, api.ErrArg},
		{api.Change{Op: api.AddEdge, Id: 1, From: 1, To: 1, Name: "9"}, api.ErrName},
		{api.Change{Op: api.AddEdge, Id: 1, Name: "T"}, api.ErrArg},
		{api.Change{Op: api.DelNode, Id: 1, Name: "9"}, api.ErrArg},
	} {
		checkIs(t, c.c, c.want)
	}
}

// names matches what the document calls a name.
var names = regexp.MustCompile(`^[a-zA-Z][a-zA-Z0-9_]{0,19}$`)

// isId reports whether n is an id.
func isId(n int) bool { return n >= 1 && n <= 1000000 }

// isNull reports whether v is null.
func isNull(v api.Value) bool {
	return v.Kind == api.VNull && v.N == 0 && v.D == 0 && v.S == "" && len(v.L) == 0
}

// checked returns what Check is defined to return.
func checked(c api.Change) api.Errno {
	fields, known := uses[c.Op]
	used := map[string]bool{}
	for _, f := range strings.Split(fields, ", ") {
		used[f] = true
	}
	wrong := !known || !isId(c.Id)
	wrong = wrong || used["From"] && !isId(c.From) || !used["From"] && c.From != 0
	wrong = wrong || used["To"] && !isId(c.To) || !used["To"] && c.To != 0
	wrong = wrong || !used["Name"] && c.Name != "" || !used["V"] && !isNull(c.V)
	if wrong {
		return api.ErrArg
	}
	if used["Name"] && !names.MatchString(c.Name) {
		return api.ErrName
	}
	if used["V"] && !isNull(c.V) && !value.Plain(c.V) {
		return api.ErrType
	}
	return api.OK
}

// textOf returns what Text is defined to return for a change that Check accepts.
func textOf(c api.Change) string {
	switch c.Op {
	case api.AddNode:
		return fmt.Sprintf("+node %d", c.Id)
	case api.DelNode:
		return fmt.Sprintf("-node %d", c.Id)
	case api.AddLabel:
		return fmt.Sprintf("+label %d %s", c.Id, c.Name)
	case api.DelLabel:
		return fmt.Sprintf("-label %d %s", c.Id, c.Name)
	case api.SetNode:
		return fmt.Sprintf("set %d %s %s", c.Id, c.Name, value.Text(c.V))
	case api.AddEdge:
		return fmt.Sprintf("+edge %d %d %d %s", c.Id, c.From, c.To, c.Name)
	case api.DelEdge:
		return fmt.Sprintf("-edge %d", c.Id)
	}
	return fmt.Sprintf("eset %d %s %s", c.Id, c.Name, value.Text(c.V))
}

// anyChanges calls f with changes of all kinds, of which few are valid.
func anyChanges(f func(c api.Change)) {
	ids := []int{least, -1, 0, 1, 77, 1000000, 1000001, greatest}
	few := []int{-1, 0, 1, 1000000, 1000001}
	for _, op := range []int{least, -8, -1, 0, 1, 2, 3, 4, 5, 6, 7, 8, 9, 10, greatest} {
		for _, id := range ids {
			for _, from := range few {
				for _, to := range few {
					for _, name := range []string{"", "k", "9", strings.Repeat("x", 20), strings.Repeat("x", 21)} {
						for _, v := range []api.Value{null, hollow(null), integer(1), str("a b"), ratio(1, 2), {N: 1}, {Kind: 9}} {
							f(api.Change{Op: op, Id: id, From: from, To: to, Name: name, V: v})
						}
					}
				}
			}
		}
	}
}

// P8.1: Check and Text of changes of all kinds.
func TestCheckAndTextOfAnyChange(t *testing.T) {
	anyChanges(func(c api.Change) {
		want := checked(c)
		if got := change.Check(c); got != want {
			t.Fatalf("Check(%+v) = %d, want %d", c, got, want)
		}
		text := ""
		if want == api.OK {
			text = textOf(c)
		}
		if got := change.Text(c); got != text {
			t.Fatalf("Text(%+v) = %q, want %q", c, got, text)
		}
	})
}

// P8.1
func TestText(t *testing.T) {
	long := strings.Repeat("x", 20)
	for _, c := range []struct {
		c    api.Change
		want string
	}{
		{addNode(1), "+node 1"}, {addNode(10), "+node 10"}, {addNode(1000000), "+node 1000000"},
		{delNode(1), "-node 1"}, {delNode(999999), "-node 999999"},
		{addLabel(1, "A"), "+label 1 A"}, {addLabel(1000000, long), "+label 1000000 " + long},
		{delLabel(1, "A"), "-label 1 A"}, {delLabel(20, "b_0"), "-label 20 b_0"},
		{setNode(1, "k", integer(5)), "set 1 k 5"}, {setNode(12, "k", integer(-m)), "set 12 k -1000000000000000"}, {setNode(12, "K", null), "set 12 K null"}, {setNode(12, "k", hollow(null)), "set 12 k null"}, {setNode(3, "k", boolean(1)), "set 3 k true"}, {setNode(3, "k", boolean(0)), "set 3 k false"}, {setNode(3, "k", str("it's")), "set 3 k 'it''s'"}, {setNode(3, "k", str("")), "set 3 k ''"}, {setNode(3, "k", str(" a  b ")), "set 3 k ' a  b '"}, {setNode(3, "k", str("null")), "set 3 k 'null'"}, {setNode(3, "null", null), "set 3 null null"},
		{addEdge(1, 2, 3, "T"), "+edge 1 2 3 T"}, {addEdge(3, 2, 1, "t"), "+edge 3 2 1 t"}, {addEdge(7, 7, 7, long), "+edge 7 7 7 " + long}, {addEdge(1000000, 1, 1000000, "T"), "+edge 1000000 1 1000000 T"},
		{delEdge(1), "-edge 1"}, {delEdge(1000000), "-edge 1000000"},
		{setEdge(1, "k", null), "eset 1 k null"}, {setEdge(2, "w", str("x")), "eset 2 w 'x'"}, {setEdge(2, "w", integer(m)), "eset 2 w 1000000000000000"}, {setEdge(2, "w", boolean(0)), "eset 2 w false"}, {setEdge(2, "w", hollow(integer(0))), "eset 2 w 0"},
		// What Check rejects.
		{api.Change{}, ""}, {api.Change{Op: 9, Id: 1}, ""}, {api.Change{Op: -1, Id: 1}, ""}, {addNode(0), ""}, {addNode(1000001), ""}, {delNode(-1), ""}, {delEdge(greatest), ""}, {addLabel(1, ""), ""}, {delLabel(1, "a b"), ""}, {setNode(1, "k", ratio(1, 2)), ""}, {setEdge(1, "k", list()), ""}, {setEdge(1, "9", integer(1)), ""}, {addEdge(1, 0, 1, "T"), ""}, {addEdge(1, 1, 0, "T"), ""}, {addEdge(1, 1, 1, ""), ""}, {api.Change{Op: api.AddNode, Id: 1, Name: "A"}, ""}, {api.Change{Op: api.DelEdge, Id: 1, To: 1}, ""}, {api.Change{Op: api.AddNode, Id: 1, V: integer(1)}, ""}, {api.Change{Op: api.AddLabel, Id: 1, Name: "A", V: integer(1)}, ""},
	} {
		if got := change.Text(c.c); got != c.want {
			t.Errorf("Text(%+v) = %q, want %q", c.c, got, c.want)
		}
	}
}

// variants returns changes that differ from each other in some field, most in only one.
func variants() []api.Change {
	var all []api.Change
	base := api.Change{Op: api.AddEdge, Id: 1, From: 2, To: 3, Name: "T", V: integer(1)}
	for _, n := range []int{0, 4, 5, 9, -1, 1<<32 + 1, least, greatest} {
		op, id, from, to := base, base, base, base
		op.Op, id.Id, from.From, to.To = n, n, n, n
		all = append(all, op, id, from, to)
	}
	for _, s := range []string{"", "t", "TT", "T ", "S", "é", "\xff"} {
		c := base
		c.Name = s
		all = append(all, c)
	}
	for _, v := range []api.Value{
		null, boolean(0), boolean(1), integer(0), integer(2), integer(-1), integer(m), ratio(1, 2), ratio(1, 3), str(""), str("1"), node(1), edge(1), list(), path(node(1)), list(node(1)), list(integer(1)), list(list()), list(null),
		{N: 1}, {D: 1}, {S: "1"}, {L: []api.Value{null}}, boolean(2), integer(m + 1), integer(m + 2), ratio(2, 4), str("\xff"), str("\xfe"), path(), {Kind: api.VInt, N: 1, D: 1}, {Kind: api.VInt, N: 1, S: "1"}, {Kind: api.VInt, N: 1, L: []api.Value{integer(1)}}, {Kind: 9}, {Kind: least}, list(boolean(2)), list(boolean(3)),
	} {
		c := base
		c.V = v
		all = append(all, c)
	}
	swapped := base
	swapped.Id, swapped.From, swapped.To = 3, 2, 1
	all = append(all, base, swapped, api.Change{}, api.Change{V: integer(1)}, api.Change{Op: 1}, api.Change{Id: 1}, api.Change{From: 1}, api.Change{To: 1}, api.Change{Name: "T"})
	for _, c := range ordinary() {
		if c.Op != 0 {
			all = append(all, c)
		}
	}
	return all
}

// P8.1: changes that differ in one field are not the same, valid or not, and each is the same as its copy.
func TestSame(t *testing.T) {
	all := variants()
	for i, a := range all {
		for j, b := range all {
			if got := change.Same(a, copied(b)); got != (i == j) {
				t.Errorf("Same(%+v, %+v) = %v", a, b, got)
			}
		}
	}
}

// P8.1: nil and empty lists are equal, also inside values.
func TestSameOfNilAndEmpty(t *testing.T) {
	for _, v := range []api.Value{null, integer(1), str("a"), list(), list(list(), integer(1)), {Kind: 9, N: 1}} {
		// A roomy list is never nil.
		a, b := setNode(1, "k", v), setNode(1, "k", rebuilt(v, roomy))
		if !change.Same(a, b) || !change.Same(b, a) {
			t.Errorf("%+v and %+v are not the same", a, b)
		}
	}
	a, b := setNode(1, "k", list(list(), list(list(null)))), setNode(1, "k", list(hollow(list()), list(list(hollow(null)))))
	if !change.Same(a, b) || !change.Same(b, a) {
		t.Errorf("%+v and %+v are not the same", a, b)
	}
}

// P8.1: values nested as deeply as the document allows stop none of the functions.
func TestDeepValues(t *testing.T) {
	deep := func(v api.Value) api.Value {
		for range 60000 {
			v = list(v)
		}
		return v
	}
	for _, c := range []api.Change{addNode(1), setNode(1, "k", null), setEdge(1, "k", null)} {
		want := api.ErrArg
		if c.Op != api.AddNode {
			want = api.ErrType
		}
		c.V = deep(integer(1))
		checkIs(t, c, want)
		d := c
		if d.V = deep(integer(1)); !change.Same(c, d) {
			t.Error("changes with equal deep values are not the same")
		}
		if d.V = deep(integer(2)); change.Same(c, d) {
			t.Error("changes with different deep values are the same")
		}
	}
}

// P8.1: none of the functions changes what it was passed.
func TestChangesStay(t *testing.T) {
	for _, c := range variants() {
		untouched(t, c, func(c api.Change) {
			change.Check(c)
			change.Text(c)
			change.Same(c, c)
		})
	}
}

// rebuilt returns a copy of x in new memory, in which every slice l is shape(l).
func rebuilt[T any](x T, shape func(l reflect.Value) reflect.Value) T {
	return rebuild(reflect.ValueOf(x), shape).Interface().(T)
}

// rebuild is rebuilt for reflected values.
func rebuild(v reflect.Value, shape func(l reflect.Value) reflect.Value) reflect.Value {
	out := reflect.New(v.Type()).Elem()
	switch v.Kind() {
	case reflect.Struct:
		for i := range v.NumField() {
			out.Field(i).Set(rebuild(v.Field(i), shape))
		}
	case reflect.Slice:
		out.Set(shape(v))
		for i := range out.Len() {
			out.Index(i).Set(rebuild(out.Index(i), shape))
		}
	default:
		out.Set(v)
	}
	return out
}

// same copies a slice as it is.
func same(l reflect.Value) reflect.Value {
	return reflect.AppendSlice(reflect.Zero(l.Type()), l)
}

// roomy copies a slice into an array with room behind it, which no function may fill.
func roomy(l reflect.Value) reflect.Value {
	out := reflect.MakeSlice(l.Type(), l.Len(), l.Len()+2)
	reflect.Copy(out, l)
	return out
}

// stretched copies a slice with all the room behind it.
func stretched(l reflect.Value) reflect.Value {
	return same(l.Slice(0, l.Cap()))
}

// copied returns a copy of x that shares no memory with it.
func copied[T any](x T) T {
	return rebuilt(x, same)
}

// untouched applies call to a copy of x and fails if call leaves anything in it, or behind it, changed.
func untouched[T any](t *testing.T, x T, call func(x T)) {
	t.Helper()
	x = rebuilt(x, roomy)
	before := rebuilt(x, stretched)
	call(x)
	if after := rebuilt(x, stretched); !reflect.DeepEqual(before, after) {
		t.Fatalf("the argument %+v was left as %+v", before, after)
	}
}
