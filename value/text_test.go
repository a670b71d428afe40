package value_test

import (
	"graphdb/api"
	"graphdb/value"
	"slices"
	"strings"
	"testing"
)

// P4.7
func TestText(t *testing.T) {
	for _, c := range []struct {
		v    api.Value
		want string
	}{
		{null, "null"},
		{boolean(true), "true"},
		{boolean(false), "false"},
		{integer(0), "0"},
		{integer(-5), "-5"},
		{integer(m), "1000000000000000"},
		{integer(-m), "-1000000000000000"},
		{ratio(1, 2), "1/2"},
		{ratio(-1, 2), "-1/2"},
		{ratio(m, m-1), "1000000000000000/999999999999999"},
		{ratio(-1, m), "-1/1000000000000000"},
		{str(""), "''"},
		{str(" "), "' '"},
		{str("abc"), "'abc'"},
		{str("null"), "'null'"},
		{str("it's"), "'it''s'"},
		{str("'"), "''''"},
		{str("''"), "''''''"},
		{str("'a'"), "'''a'''"},
		{str(`"\`), `'"\'`},
		{str(strings.Repeat("'", 100)), strings.Repeat("'", 202)},
		{str("~!#@[], <>"), "'~!#@[], <>'"},
		{node(1), "#1"},
		{node(1000000), "#1000000"},
		{edge(1), "@1"},
		{edge(1000000), "@1000000"},
		{list(), "[]"},
		{with(list(), []api.Value{}), "[]"},
		{list(null), "[null]"},
		{list(null, boolean(true), integer(-1), ratio(1, 2), str("a, b"), node(7), edge(8)), "[null, true, -1, 1/2, 'a, b', #7, @8]"},
		{list(str("it's"), node(3)), "['it''s', #3]"},
		{list(list()), "[[]]"},
		{list(list(), list()), "[[], []]"},
		{list(integer(1), list(integer(2), list(integer(3))), integer(4)), "[1, [2, [3]], 4]"},
		{nested(8, integer(1)), "[[[[[[[[1]]]]]]]]"},
		{list(walk(3), null), "[<#1 @2 #3>, null]"},
		{list(many(64, integer(7))...), "[" + strings.Repeat("7, ", 63) + "7]"},
		{path(node(5)), "<#5>"},
		{path(node(1), edge(2), node(3)), "<#1 @2 #3>"},
		{walk(25), "<#1 @2 #3 @4 #5 @6 #7 @8 #9 @10 #11 @12 #13 @14 #15 @16 #17 @18 #19 @20 #21 @22 #23 @24 #25>"},
	} {
		if s := value.Text(c.v); s != c.want {
			t.Errorf("Text(%v) = %q; want %q", c.v, s, c.want)
		}
	}
}

// P4.7
func TestTextOfInvalid(t *testing.T) {
	l := invalidOrdered()
	for _, v := range validOrdered() {
		l = append(l, setFields(v)...)
	}
	for _, v := range l {
		if s := value.Text(v); s != "?" {
			t.Errorf("Text(%v) = %q", v, s)
		}
	}
	// A string of a question mark is no such value.
	if s := value.Text(str("?")); s != "'?'" {
		t.Errorf("Text of the string ? is %q", s)
	}
}

// alike returns valid values whose texts are similar.
func alike() []api.Value {
	return []api.Value{
		str("'"), str("''"), str("', '"), list(str(""), str("")), list(str("', '")), list(str("'', ''")), list(str("a"), str("b")), list(str("a', 'b")), list(str("a, b")), str("[]"), list(), list(list()), str("?"), str("true"), str("1"), str("1/2"), str("#1"), str("@1"), str("<#1>"),
		list(integer(1), integer(2)), list(integer(12)), list(list(integer(1)), integer(2)), list(list(integer(1), integer(2))), list(integer(1), list(integer(2))), list(node(1), edge(2), node(3)), walk(3), list(walk(3)), list(walk(1), edge(2), walk(1)), path(node(1), edge(1), node(11)), path(node(1), edge(11), node(1)), path(node(11), edge(1), node(1)),
	}
}

// P4.8: valid values with the same text are identical.
func TestTextTellsValuesApart(t *testing.T) {
	l := slices.Concat(validOrdered(), alike(), picks(10, 3000))
	seen := map[string]api.Value{}
	for _, v := range l {
		if !value.Valid(v) {
			continue
		}
		s := value.Text(v)
		if other, ok := seen[s]; ok && !identical(v, other) {
			t.Errorf("%v and %v have the same text %q", v, other, s)
		}
		seen[s] = v
	}
	if len(seen) < 500 {
		t.Errorf("only %d texts compared", len(seen))
	}
}
