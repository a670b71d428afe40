package codec_test

import (
	"bytes"
	"encoding/binary"
	"graphdb/api"
	"graphdb/codec"
	"graphdb/value"
	"math/rand"
	"slices"
	"strings"
	"testing"
)

const m = api.MaxInt

// These write values as api has them.
func boolean(n int) api.Value       { return api.Value{Kind: api.VBool, N: n} }
func integer(n int) api.Value       { return api.Value{Kind: api.VInt, N: n} }
func ratio(n, d int) api.Value      { return api.Value{Kind: api.VRat, N: n, D: d} }
func str(s string) api.Value        { return api.Value{Kind: api.VStr, S: s} }
func node(n int) api.Value          { return api.Value{Kind: api.VNode, N: n} }
func edge(n int) api.Value          { return api.Value{Kind: api.VEdge, N: n} }
func list(l ...api.Value) api.Value { return api.Value{Kind: api.VList, L: l} }
func path(l ...api.Value) api.Value { return api.Value{Kind: api.VPath, L: l} }

// walk returns a path of n values; it ends with an edge if n is even.
func walk(n int) api.Value {
	var l []api.Value
	for i := range n {
		l = append(l, []api.Value{node(i + 1), edge(1000*i + 1)}[i%2])
	}
	return path(l...)
}

// many returns n times the value v.
func many(n int, v api.Value) []api.Value {
	return slices.Repeat([]api.Value{v}, n)
}

// nested returns the value v within n lists.
func nested(n int, v api.Value) api.Value {
	for range n {
		v = list(v)
	}
	return v
}

// identical reports whether all fields of a and b are equal; a nil and an empty L are.
func identical(a, b api.Value) bool {
	return value.Order(a, b) == 0
}

// copied returns a copy of v that shares no memory with it.
func copied(v api.Value) api.Value {
	v.L = slices.Clone(v.L)
	for i := range v.L {
		v.L[i] = copied(v.L[i])
	}
	return v
}

// written writes any value as P5.3 says for valid ones, so that it also gives the bytes that no valid value has.
func written(v api.Value) []byte {
	b := []byte{byte(v.Kind)}
	switch v.Kind {
	case api.VNull:
	case api.VRat:
		b = binary.AppendVarint(binary.AppendVarint(b, int64(v.N)), int64(v.D))
	case api.VStr:
		b = append(binary.AppendUvarint(b, uint64(len(v.S))), v.S...)
	case api.VList, api.VPath:
		b = binary.AppendUvarint(b, uint64(len(v.L)))
		for _, e := range v.L {
			b = append(b, written(e)...)
		}
	default:
		b = binary.AppendVarint(b, int64(v.N))
	}
	return b
}

// validValues returns values of each kind with all fields at the ends of their ranges, and pseudorandom ones.
func validValues() []api.Value {
	printable := make([]byte, 0, 95)
	for c := byte(32); c <= 126; c++ {
		printable = append(printable, c)
	}
	l := []api.Value{
		{}, boolean(0), boolean(1),
		integer(0), integer(1), integer(-1), integer(63), integer(-64), integer(64), integer(-65), integer(m), integer(-m), integer(m - 1), integer(1 - m),
		ratio(1, 2), ratio(-1, 2), ratio(1, m), ratio(-1, m), ratio(m, m-1), ratio(-m, m-1), ratio(m-1, m), ratio(7, 64),
		str(""), str("a"), str("it's"), str(" ~"), str(string(printable)), str(strings.Repeat("x", 63)), str(strings.Repeat("x", 64)), str(strings.Repeat("x", 99)), str(strings.Repeat("x", 100)),
		node(1), node(63), node(64), node(1000000), edge(1), edge(63), edge(64), edge(1000000),
		walk(1), walk(3), walk(23), walk(25), path(node(1000000), edge(1000000), node(1000000)), path(node(1), edge(1), node(1), edge(1), node(1)),
		list(), list(api.Value{}), list(api.Value{}, integer(-1)), list(list(), list()), list(many(63, integer(m))...), list(many(64, str(strings.Repeat("x", 100)))...), list(many(64, walk(25))...),
		nested(7, list()), nested(8, walk(25)), nested(8, str("a")), list(nested(7, node(1)), walk(3), nested(7, edge(1)), list(), str("")), nested(7, list(many(64, boolean(1))...)),
	}
	source := rand.New(rand.NewSource(4))
	for len(l) < 2000 {
		l = append(l, pick(source, 4))
	}
	return l
}

// pick returns a pseudorandom valid value with lists at most depth deep.
func pick(source *rand.Rand, depth int) api.Value {
	number := int(source.Uint64() >> (14 + source.Intn(50)))
	switch source.Intn(12) {
	case 0:
		return api.Value{}
	case 1:
		return boolean(source.Intn(2))
	case 2, 3:
		return integer(number%(2*m+1) - m)
	case 4:
		// Neighbors have no common divisor.
		return ratio(number%m+1, number%m+2)
	case 5:
		return str(strings.Repeat(string(rune(32+source.Intn(95))), source.Intn(101)))
	case 6:
		return node(number%1000000 + 1)
	case 7:
		return edge(number%1000000 + 1)
	case 8:
		return walk(1 + 2*source.Intn(13))
	}
	v := list()
	for range source.Intn(6) * min(depth, 1) {
		v.L = append(v.L, pick(source, depth-1))
	}
	return v
}

// P5.3: the encoding of values of each kind, byte by byte.
func TestPutValue(t *testing.T) {
	for _, c := range []struct {
		v    api.Value
		want string
	}{
		{api.Value{}, "\x00"},
		{boolean(0), "\x01\x00"},
		{boolean(1), "\x01\x02"},
		{integer(0), "\x02\x00"},
		{integer(-1), "\x02\x01"},
		{integer(1), "\x02\x02"},
		{integer(64), "\x02\x80\x01"},
		{integer(m), "\x02\x80\x80\xb4\xcc\xd4\xdf\xc6\x03"},
		{integer(-m), "\x02\xff\xff\xb3\xcc\xd4\xdf\xc6\x03"},
		{ratio(1, 2), "\x03\x02\x04"},
		{ratio(-1, 2), "\x03\x01\x04"},
		{ratio(7, 64), "\x03\x0e\x80\x01"},
		{str(""), "\x04\x00"},
		{str("ab"), "\x04\x02ab"},
		{str(strings.Repeat("x", 100)), "\x04\x64" + strings.Repeat("x", 100)},
		{node(1), "\x05\x02"},
		{node(1000000), "\x05\x80\x89\x7a"},
		{edge(1), "\x06\x02"},
		{edge(1000000), "\x06\x80\x89\x7a"},
		{path(node(1)), "\x07\x01\x05\x02"},
		{path(node(1), edge(2), node(3)), "\x07\x03\x05\x02\x06\x04\x05\x06"},
		{list(), "\x08\x00"},
		{api.Value{Kind: api.VList, L: []api.Value{}}, "\x08\x00"},
		{list(api.Value{}, integer(-1)), "\x08\x02\x00\x02\x01"},
		{list(list(list()), str("a"), path(node(1)), ratio(1, 2)), "\x08\x04\x08\x01\x08\x00\x04\x01a\x07\x01\x05\x02\x03\x02\x04"},
		{nested(8, api.Value{}), strings.Repeat("\x08\x01", 8) + "\x00"},
		{list(many(64, api.Value{})...), "\x08\x40" + strings.Repeat("\x00", 64)},
	} {
		if got := codec.PutValue(c.v); string(got) != c.want {
			t.Errorf("PutValue(%v) = % x, want % x", c.v, got, c.want)
		}
	}
	for _, v := range validValues() {
		before := copied(v)
		if got, want := codec.PutValue(v), written(v); !bytes.Equal(got, want) {
			t.Errorf("PutValue(%v) = % x, want % x", v, got, want)
		}
		if !identical(v, before) {
			t.Errorf("PutValue(%v) changed its argument", v)
		}
	}
}

// unreadable returns values that are not valid although each byte of what written writes for them stands for a part of a value.
func unreadable() []api.Value {
	return []api.Value{
		boolean(2), boolean(-1), boolean(least), boolean(greatest),
		integer(m + 1), integer(-m - 1), integer(greatest), integer(least),
		ratio(2, 1), ratio(0, 1), ratio(0, 2), ratio(1, 0), ratio(1, -2), ratio(2, 4), ratio(-3, 6), ratio(1, m+1), ratio(m+1, 2), ratio(-m-1, 2), ratio(least, 3), ratio(1, least), ratio(1, greatest), ratio(0, 0),
		str("\x1f"), str("\x7f"), str("\x00"), str("a\n"), str("é"), str("\xff"), str(strings.Repeat("x", 99) + "\t"),
		node(0), node(-1), node(1000001), node(least), node(greatest),
		edge(0), edge(-1), edge(1000001), edge(least), edge(greatest),
		path(node(0)), path(node(1), edge(0), node(1)), path(node(1), edge(1), node(1000001)), path(node(1), edge(-1), node(1)),
		list(boolean(2)), list(api.Value{}, node(0)), list(list(integer(m + 1))), list(str("\n"), api.Value{}), list(path(node(0))), list(ratio(2, 4)), nested(8, integer(m+1)),
	}
}

// P5.3: nothing is written for a value that is not valid.
func TestPutValueOfInvalid(t *testing.T) {
	deep := api.Value{Kind: api.VList}
	for range 1 << 16 {
		deep = list(deep)
	}
	l := append(unreadable(),
		api.Value{Kind: 9}, api.Value{Kind: -1}, api.Value{Kind: 256}, api.Value{Kind: 258, N: 1}, api.Value{Kind: least}, api.Value{Kind: greatest},
		api.Value{N: 1}, api.Value{D: 1}, api.Value{S: "a"}, api.Value{L: many(1, api.Value{})},
		api.Value{Kind: api.VInt, N: 1, D: 1}, api.Value{Kind: api.VInt, S: "a"}, api.Value{Kind: api.VStr, N: 1}, api.Value{Kind: api.VNode, N: 1, L: many(1, api.Value{})}, api.Value{Kind: api.VList, N: 1}, api.Value{Kind: api.VPath, S: "a", L: many(1, node(1))},
		str(strings.Repeat("x", 101)), list(many(65, api.Value{})...), nested(9, api.Value{}), nested(8, list()), deep, list(deep),
		path(), walk(2), walk(24), walk(26), walk(27), path(edge(1)), path(node(1), node(1), node(1)), path(node(1), edge(1), edge(1)), path(integer(1)), path(list(node(1))),
		list(api.Value{Kind: 9}), list(walk(2)), list(path()), list(integer(1), api.Value{N: 1}),
	)
	for i, v := range l {
		if got := codec.PutValue(v); len(got) != 0 {
			t.Errorf("PutValue of the invalid value %d = % x, want nothing", i, got[:min(len(got), 20)])
		}
	}
}

// P5.6, P5.9: what PutValue wrote is read back between any other bytes.
func TestValuesAreReadBack(t *testing.T) {
	for _, v := range validValues() {
		for _, other := range around() {
			before, after := other[0], other[1]
			b := slices.Concat([]byte(before), codec.PutValue(v), []byte(after))
			g := guarded(b)
			got, end, err := codec.Value(g, len(before))
			if !identical(got, v) || end != len(b)-len(after) || err != api.OK {
				t.Fatalf("Value(% x, %d) = %v, %d, %d, want %v", b, len(before), got, end, err, v)
			}
			if !unchanged(g, b) {
				t.Fatalf("Value(% x, %d) changed its argument", b, len(before))
			}
		}
	}
}

// checkError checks that Value gives the error and nothing else.
func checkError(t *testing.T, b []byte, at int, want api.Errno) {
	t.Helper()
	g := guarded(b)
	if v, end, err := codec.Value(g, at); !identical(v, api.Value{}) || end != 0 || err != want {
		t.Errorf("Value(% x, %d) = %v, %d, %d, want the error %d", b, at, v, end, err, want)
	}
	if !unchanged(g, b) {
		t.Errorf("Value(% x, %d) changed its argument", b, at)
	}
}

// P5.6: a value that is cut off anywhere ends too early, whatever is before it.
func TestValueCutOff(t *testing.T) {
	for _, v := range validValues() {
		whole := codec.PutValue(v)
		for n := range min(len(whole), 200) {
			checkError(t, whole[:n], 0, api.ErrShort)
			checkError(t, append([]byte{9, 0x80}, whole[:n]...), 2, api.ErrShort)
		}
		checkError(t, whole[:len(whole)-1], 0, api.ErrShort)
	}
}

// P5.6: a value that is not valid is found after its last byte, not before it, and before what follows it.
func TestValueOfInvalid(t *testing.T) {
	for _, v := range unreadable() {
		b := written(v)
		checkError(t, b, 0, api.ErrSyntax)
		checkError(t, append(slices.Clone(b), 0, 0, 0), 0, api.ErrSyntax)
		if v.Kind == api.VList || v.Kind == api.VPath {
			continue
		}
		checkError(t, b[:len(b)-1], 0, api.ErrShort)
		// In a list, behind a valid element and before the end of the input, an element that is too short and one that is too long.
		for _, after := range []string{"", "\x04", "\x02" + strings.Repeat("\xff", 10)} {
			checkError(t, slices.Concat([]byte{8, 3, 0}, b, []byte(after)), 0, api.ErrSyntax)
		}
		checkError(t, slices.Concat([]byte{8, 3, 0}, b[:len(b)-1]), 0, api.ErrShort)
	}
}

// failure is an input and offset for which Value gives an error.
type failure struct {
	b    string
	at   int
	want api.Errno
}

// checkFailures checks the errors of l, also behind other bytes.
func checkFailures(t *testing.T, l []failure) {
	t.Helper()
	for _, c := range l {
		b := []byte(c.b)
		checkError(t, b, c.at, c.want)
		if 0 <= c.at && c.at <= len(b) {
			checkError(t, append([]byte("\x08\x80"), b...), c.at+2, c.want)
		}
	}
}

// tooLong is a varint of a number that no int has as its zigzag form, uintTooLong one of a number beyond int.
const (
	tooLong     = "\xff\xff\xff\xff\xff\xff\xff\xff\xff\x02"
	uintTooLong = "\x80\x80\x80\x80\x80\x80\x80\x80\x80\x01"
)

// P5.6: offsets beside the input come first, then those at its end.
func TestValueOffsets(t *testing.T) {
	checkFailures(t, []failure{
		{"\x00", -1, api.ErrArg},
		{"\x00", 2, api.ErrArg},
		{"\x00", least, api.ErrArg},
		{"\x00", greatest, api.ErrArg},
		{"", 1, api.ErrArg},
		{"", -1, api.ErrArg},
		{"", 0, api.ErrShort},
		{"\x00", 1, api.ErrShort},
	})
}

// P5.6: the errors of Int, and of two numbers the one whose byte comes first.
func TestValueNumbers(t *testing.T) {
	checkFailures(t, []failure{
		{"\x01", 0, api.ErrShort},
		{"\x01\x80", 0, api.ErrShort},
		{"\x01\x82\x00", 0, api.ErrSyntax},
		{"\x01" + tooLong, 0, api.ErrLong},
		{"\x02\x80\x00", 0, api.ErrSyntax},
		{"\x02" + tooLong, 0, api.ErrLong},
		{"\x02" + strings.Repeat("\xff", 10), 0, api.ErrLong},
		{"\x02" + strings.Repeat("\xff", 9), 0, api.ErrShort},
		{"\x02" + strings.Repeat("\xff", 9) + "\x01", 0, api.ErrSyntax},
		{"\x03\x82\x00\x04", 0, api.ErrSyntax},
		{"\x03" + tooLong, 0, api.ErrLong},
		{"\x03" + tooLong + "\x80\x00", 0, api.ErrLong},
		{"\x03\x82\x00" + tooLong, 0, api.ErrSyntax},
		{"\x03\x02" + tooLong, 0, api.ErrLong},
		{"\x03\x02\x84\x00", 0, api.ErrSyntax},
		{"\x03\x02", 0, api.ErrShort},
		{"\x03" + strings.Repeat("\xff", 9) + "\x01", 0, api.ErrShort},
		{"\x03" + strings.Repeat("\xff", 9) + "\x01\x84", 0, api.ErrShort},
		{"\x05\x82\x00", 0, api.ErrSyntax},
		{"\x05" + tooLong, 0, api.ErrLong},
		{"\x06\x82\x00", 0, api.ErrSyntax},
		{"\x06" + tooLong, 0, api.ErrLong},
	})
}

// P5.6: the errors of Str, whose limit comes before the end of the input, and bytes that no string value has, which come after it.
func TestValueStrings(t *testing.T) {
	checkFailures(t, []failure{
		{"\x04\x65" + strings.Repeat("x", 101), 0, api.ErrLong},
		{"\x04\x65", 0, api.ErrLong},
		{"\x04\x64" + strings.Repeat("x", 99), 0, api.ErrShort},
		{"\x04\x64" + strings.Repeat("\n", 99), 0, api.ErrShort},
		{"\x04\x64" + strings.Repeat("\n", 100), 0, api.ErrSyntax},
		{"\x04" + uintTooLong, 0, api.ErrLong},
		{"\x04\x82\x00ab", 0, api.ErrSyntax},
		{"\x04\xe5\x00", 0, api.ErrSyntax},
	})
}

// P5.6: the number of elements, which is checked before the elements are read.
func TestValueNumberOfElements(t *testing.T) {
	checkFailures(t, []failure{
		{"\x08", 0, api.ErrShort},
		{"\x08\x80", 0, api.ErrShort},
		{"\x08\x40" + strings.Repeat("\x00", 63), 0, api.ErrShort},
		{"\x08\x41", 0, api.ErrSyntax},
		{"\x08\x41" + strings.Repeat("\x00", 65), 0, api.ErrSyntax},
		{"\x08\xff\xff\xff\xff\xff\xff\xff\xff\x7f", 0, api.ErrSyntax},
		{"\x08" + uintTooLong, 0, api.ErrLong},
		{"\x08\x81\x00\x00", 0, api.ErrSyntax},
		{"\x07", 0, api.ErrShort},
		{"\x07\x00", 0, api.ErrSyntax},
		{"\x07\x02", 0, api.ErrSyntax},
		{"\x07\x02\x05\x02\x06\x02", 0, api.ErrSyntax},
		{"\x07\x18", 0, api.ErrSyntax},
		{"\x07\x19", 0, api.ErrShort},
		{"\x07\x1a", 0, api.ErrSyntax},
		{"\x07\x1b", 0, api.ErrSyntax},
		{"\x07\x41", 0, api.ErrSyntax},
		{"\x07\xff\xff\xff\xff\xff\xff\xff\xff\x7f", 0, api.ErrSyntax},
		{"\x07" + uintTooLong, 0, api.ErrLong},
		{"\x07\x81\x00\x05\x02", 0, api.ErrSyntax},
		{"\x07\x01", 0, api.ErrShort},
	})
}

// P5.6: the kind of an element of a path decides before what follows it, and whether it is valid before the next element.
func TestValuePaths(t *testing.T) {
	checkFailures(t, []failure{
		{"\x07\x01\x06", 0, api.ErrSyntax},
		{"\x07\x01\x06\x02", 0, api.ErrSyntax},
		{"\x07\x01\x06" + tooLong, 0, api.ErrSyntax},
		{"\x07\x01\x05" + tooLong, 0, api.ErrLong},
		{"\x07\x01\x04" + uintTooLong, 0, api.ErrSyntax},
		{"\x07\x01\x08", 0, api.ErrSyntax},
		{"\x07\x03\x05\x02\x05", 0, api.ErrSyntax},
		{"\x07\x03\x05\x02\x05\x02\x05\x02", 0, api.ErrSyntax},
		{"\x07\x03\x05\x02\x06\x02\x06", 0, api.ErrSyntax},
		{"\x07\x03\x05\x02", 0, api.ErrShort},
		{"\x07\x03\x05\x00", 0, api.ErrSyntax},
		{"\x07\x03\x05\x02\x06\x00", 0, api.ErrSyntax},
		{"\x07\x03\x05\x00\x06" + tooLong, 0, api.ErrSyntax},
		{"\x07\x03\x05" + tooLong + "\x05", 0, api.ErrLong},
		{strings.Repeat("\x07\x01", 1<<16), 0, api.ErrSyntax},
	})
}

// P5.6: a list inside eight others is not read, not even its number of elements; a path is.
func TestValueNesting(t *testing.T) {
	seven := strings.Repeat("\x08\x01", 7)
	eight := seven + "\x08\x01"
	checkFailures(t, []failure{
		{eight + "\x08", 0, api.ErrSyntax},
		{eight + "\x08\x00", 0, api.ErrSyntax},
		{eight + "\x08" + uintTooLong, 0, api.ErrSyntax},
		{eight, 0, api.ErrShort},
		{eight + "\x07", 0, api.ErrShort},
		{eight + "\x07\x01\x08", 0, api.ErrSyntax},
		{eight + "\x07\x01\x07\x01\x05\x02", 0, api.ErrSyntax},
		{"\x08\x02" + seven + "\x00\x08\x02\x00" + seven + "\x00", 0, api.ErrSyntax},
		{strings.Repeat("\x08\x01", 1<<16), 0, api.ErrSyntax},
		{strings.Repeat("\x08\x40", 1<<16), 0, api.ErrSyntax},
	})
}

// P5.6: of two elements the first decides.
func TestValueElements(t *testing.T) {
	checkFailures(t, []failure{
		{"\x08\x02\x09\x02" + tooLong, 0, api.ErrSyntax},
		{"\x08\x02\x02" + tooLong + "\x09", 0, api.ErrLong},
		{"\x08\x02\x04\x65\x01\x04", 0, api.ErrLong},
		{"\x08\x02\x01\x04\x04\x65", 0, api.ErrSyntax},
		{"\x08\x02\x08\x02\x00\x02", 0, api.ErrShort},
	})
}

// P5.6: the bytes that are a kind, and those that are not, alone, in a list and in a path.
func TestValueKinds(t *testing.T) {
	bodies := []string{"", "\x02", "\x02", "\x02\x04", "\x01a", "\x02", "\x02", "\x01\x05\x02", "\x01\x00"}
	steps := []int{api.VNode, api.VEdge, api.VNode}
	for c := range 256 {
		body := "\x02\x02\x02"
		if c < len(bodies) {
			body = bodies[c]
			b := []byte(string([]byte{byte(c)}) + body)
			if v, end, err := codec.Value(b, 0); v.Kind != c || end != len(b) || err != api.OK {
				t.Errorf("Value(% x) = %v, %d, %d", b, v, end, err)
			}
			b = slices.Concat([]byte{8, 2, 0}, b)
			if v, end, err := codec.Value(b, 0); len(v.L) != 2 || v.L[1].Kind != c || end != len(b) || err != api.OK {
				t.Errorf("Value(% x) = %v, %d, %d", b, v, end, err)
			}
		} else {
			checkError(t, []byte{byte(c)}, 0, api.ErrSyntax)
			checkError(t, []byte{byte(c), 2, 2, 2}, 0, api.ErrSyntax)
			checkError(t, []byte{8, 2, 0, byte(c)}, 0, api.ErrSyntax)
		}
		for i, kind := range steps {
			b := []byte{7, 3}
			for j := range steps {
				if j < i {
					b = append(b, byte(steps[j]), 2)
				}
			}
			b = append(b, byte(c))
			if c == kind {
				checkError(t, b, 0, api.ErrShort)
				continue
			}
			checkError(t, b, 0, api.ErrSyntax)
			checkError(t, append(b, body...), 0, api.ErrSyntax)
		}
	}
}

// P5.6: paths of 1 to 27 values and lists of up to 66.
func TestValueCounts(t *testing.T) {
	for n := range 67 {
		l, p := written(list(many(n, api.Value{})...)), written(walk(n))
		v, end, err := codec.Value(l, 0)
		if n > 64 {
			checkError(t, l, 0, api.ErrSyntax)
		} else if !identical(v, list(many(n, api.Value{})...)) || end != len(l) || err != api.OK {
			t.Errorf("Value of a list of %d values = %v, %d, %d", n, v, end, err)
		}
		v, end, err = codec.Value(p, 0)
		if n%2 == 0 || n > 25 {
			checkError(t, p, 0, api.ErrSyntax)
		} else if !identical(v, walk(n)) || end != len(p) || err != api.OK {
			t.Errorf("Value of a path of %d values = %v, %d, %d", n, v, end, err)
		}
	}
}

// P5.9: of all short inputs over the bytes that matter, what Value accepts is the encoding of its result, and it looks at nothing behind it.
func TestValueAcceptsOnlyEncodings(t *testing.T) {
	alphabet := []byte{0, 1, 2, 3, 4, 5, 6, 7, 8, 9, 0x0d, 0x40, 0x80, 0x81, 0xff}
	accepted := 0
	var extend func(b []byte, more int)
	extend = func(b []byte, more int) {
		v, end, err := codec.Value(b, 0)
		if err == api.OK {
			accepted++
			if !value.Valid(v) || !bytes.Equal(codec.PutValue(v), b[:end]) {
				t.Fatalf("Value(% x) = %v, %d, whose encoding is % x", b, v, end, codec.PutValue(v))
			}
		}
		// Only if the input was too short can more of it change the result.
		if err != api.ErrShort {
			longer, e, r := codec.Value(append(slices.Clone(b), 0x80, 9, 0, 2), 0)
			if !identical(longer, v) || e != end || r != err {
				t.Fatalf("Value(% x) = %v, %d, %d, but with more bytes %v, %d, %d", b, v, end, err, longer, e, r)
			}
			return
		}
		if more == 0 {
			return
		}
		for _, c := range alphabet {
			extend(append(slices.Clone(b), c), more-1)
		}
	}
	extend(nil, 7)
	if accepted < 1000 {
		t.Errorf("only %d inputs were accepted", accepted)
	}
}

// P5.6, P5.9: encodings with one byte changed, removed or added are rejected, or are the encoding of another value.
func TestValueOfChangedEncodings(t *testing.T) {
	source := rand.New(rand.NewSource(5))
	for _, v := range validValues() {
		whole := codec.PutValue(v)
		for range 20 {
			i := source.Intn(len(whole))
			c := byte(source.Intn(256) >> source.Intn(8))
			for _, b := range [][]byte{slices.Replace(slices.Clone(whole), i, i+1, c), slices.Delete(slices.Clone(whole), i, i+1), slices.Insert(slices.Clone(whole), i, c)} {
				got, end, err := codec.Value(b, 0)
				if err == api.OK && (!value.Valid(got) || !bytes.Equal(codec.PutValue(got), b[:end])) {
					t.Fatalf("Value(% x) = %v, %d, whose encoding is % x", b, got, end, codec.PutValue(got))
				}
				if err != api.OK && (end != 0 || !identical(got, api.Value{})) {
					t.Fatalf("Value(% x) = %v, %d beside the error %d", b, got, end, err)
				}
			}
		}
	}
}
