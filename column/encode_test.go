package column_test

import (
	"fmt"
	"graphdb/api"
	"graphdb/column"
	"math/rand"
	"slices"
	"testing"
)

// encodings returns columns with the descriptions of their encodings.
func encodings() []struct {
	c    api.Column
	code string
} {
	return []struct {
		c    api.Column
		code string
	}{
		{api.Column{}, "0"},
		{col("1", "0 2", "2 3", "1 2"), "x01010202020202"},
		{col("2", "0 2", "1 2", "7 8"), "x010202010e0202"},
		{col("1", "0 1", "1", "1"), "1 1 1 +0 +1"},
		// To begins with the node in each row, Edge goes on.
		{col("1 4", "0 2 4", "3 3 2 4", "5 9 7 1"), "x020102040a000803020303040b"},
		{col("1 2 3", "0 1 2 3", "3 2 1", "3 2 1"), "3 1 1 +2 +3 1 1 +0 -1 1 1 -2 -1"},
		// Differences at the ends of one byte, and of their range.
		{col("63", "0 1", "126", "63"), "x013f017e7e"},
		{col("64", "0 1", "128", "64"), "x01400180018001"},
		{col("65", "0 2", "1 65", "64 1"), "x0141027f800180017d"},
		{col("66", "0 1", "1", "1"), "x014201810102"},
		{col("127 255", "0 1 2", "127 255", "1 2"), "x027f0100028001010002"},
		{col("1000000", "0 1", "1", "1000000"), "x01c0843d01fd887a80897a"},
		{col("1000000", "0 1", "1000000", "1"), "1 1000000 1 +0 +1"},
		{col("1 1000000", "0 2 4", "1 1000000 1 1000000", "1000000 1 999999 2"), "2 1 2 +0 +1000000 +999999 -999999 999999 2 -999999 +999998 +999999 -999997"},
		{sampleColumn(), "3 1 3 +0 +20 +2 -16 +0 +5 1 1 -1 -1 3 4 -4 +22 +4 -28 +0 +1 +4 -2"},
	}
}

// P12.4: columns and their encodings, written by hand.
func TestEncode(t *testing.T) {
	for _, c := range encodings() {
		readsAs(t, c.c, listOf(c.c), coded(c.code))
		decodeIs(t, coded(c.code), c.c, api.OK)
	}
	if b := column.Encode(col("", "0", "", "")); !slices.Equal(b, []byte{0}) {
		t.Errorf("the empty column with First [0] is encoded as % x", b)
	}
}

// listOf returns the entries of a valid column, none if it is empty.
func listOf(c api.Column) []api.Adj {
	if len(c.Nodes) == 0 {
		return nil
	}
	return entriesOf(c)
}

// P12.4: encodings that are cut off at each byte.
func TestDecodeOfPrefixes(t *testing.T) {
	for _, c := range encodings() {
		b := coded(c.code)
		for i := range b {
			decodeIs(t, b[:i], api.Column{}, api.ErrShort)
		}
	}
	decodeIs(t, nil, api.Column{}, api.ErrShort)
	decodeIs(t, []byte{}, api.Column{}, api.ErrShort)
}

// P12.4: encodings with bytes behind the last number.
func TestDecodeOfMore(t *testing.T) {
	for _, c := range encodings() {
		b := coded(c.code)
		for more := range 256 {
			decodeIs(t, slices.Concat(b, []byte{byte(more)}), api.Column{}, api.ErrSyntax)
		}
		decodeIs(t, slices.Concat(b, b), api.Column{}, api.ErrSyntax)
		decodeIs(t, slices.Concat(b, make([]byte, 100)), api.Column{}, api.ErrSyntax)
	}
}

// ends returns the offsets after each number in b.
func ends(b []byte) []int {
	var l []int
	for i, c := range b {
		if c < 0x80 {
			l = append(l, i+1)
		}
	}
	return l
}

// P12.4: each number of an encoding written in more bytes than needed, in too many bytes, and too great.
func TestDecodeOfWrongNumbers(t *testing.T) {
	for _, c := range encodings() {
		b := coded(c.code)
		start := 0
		for _, end := range ends(b) {
			with := func(number string) []byte { return slices.Concat(b[:start], coded(number), b[end:]) }
			longer := slices.Clone(b[:end])
			longer[end-1] |= 0x80
			decodeIs(t, slices.Concat(longer, []byte{0}, b[end:]), api.Column{}, api.ErrSyntax)
			decodeIs(t, slices.Concat(longer, []byte{0x80, 0x80, 0}, b[end:]), api.Column{}, api.ErrSyntax)
			decodeIs(t, with("x8000"), api.Column{}, api.ErrSyntax)
			decodeIs(t, with("xffffffffffffffffffff00"), api.Column{}, api.ErrLong)
			decodeIs(t, with("xffffffffffffffffff02"), api.Column{}, api.ErrLong)
			decodeIs(t, slices.Concat(b[:start], coded("xffffffffffffffffff")), api.Column{}, api.ErrShort)
			decodeIs(t, slices.Concat(b[:start], coded("x80")), api.Column{}, api.ErrShort)
			want, err := decoded(with("xffffffffffffffffff01"))
			if err == api.OK {
				t.Errorf("the definition accepts % x", with("xffffffffffffffffff01"))
			}
			decodeIs(t, with("xffffffffffffffffff01"), want, err)
			start = end
		}
	}
}

// P12.4: each error by itself, and of several errors the first that is met.
func TestDecodeErrors(t *testing.T) {
	for _, c := range []struct {
		code string
		want api.Errno
	}{
		// The number of nodes: the greatest one is a number, one more is none.
		{"x", api.ErrShort}, {"1", api.ErrShort}, {"9223372036854775807", api.ErrShort}, {"x80808080808080808001", api.ErrLong}, {"9223372036854775807 1 1 +0 +1", api.ErrShort}, {"2 1 1 +0 +1", api.ErrShort},
		// The first node.
		{"1 0", api.ErrArg}, {"1 1", api.ErrShort}, {"1 1000000", api.ErrShort}, {"1 1000001", api.ErrArg}, {"1 4294967297", api.ErrArg}, {"1 9223372036854775807", api.ErrArg}, {"1 x80808080808080808001", api.ErrLong},
		{"1 0 1 +1 +1", api.ErrArg}, {"1 1000001 1 +0 +1", api.ErrArg}, {"1 1000001 0", api.ErrArg}, {"1 0 x8000", api.ErrArg}, {"1 x8000 0", api.ErrSyntax},
		// The second node: the sum counts, not the difference.
		{"2 1 1 +0 +1 999999", api.ErrShort}, {"2 1 1 +0 +1 1000000", api.ErrArg}, {"2 1000000 1 +0 +1 1", api.ErrArg}, {"2 1000000 1 +0 +1 1 x8000", api.ErrArg}, {"2 2 1 +0 +1 9223372036854775807", api.ErrArg}, {"2 1000000 1 +0 +1 9223372036854775807", api.ErrArg}, {"2 1 1 +0 +1 4294967296", api.ErrArg}, {"2 1 1 +0 +1 x80808080808080808001", api.ErrLong},
		// The number of entries.
		{"1 1 0", api.ErrArg}, {"1 1 0 +0 +1", api.ErrArg}, {"2 1 0 1 0", api.ErrArg}, {"2 1 1 +0 +1 1 0", api.ErrArg}, {"1 1 1", api.ErrShort}, {"1 1 9223372036854775807", api.ErrShort}, {"1 1 9223372036854775807 +0 +1", api.ErrShort}, {"1 1 x80808080808080808001", api.ErrLong}, {"1 1 0 x8000", api.ErrArg}, {"1 1 x8000", api.ErrSyntax},
		// The first To of a row is compared with the node.
		{"1 1 1 -1", api.ErrArg}, {"1 1 1 +0", api.ErrShort}, {"1 1 1 +999999", api.ErrShort}, {"1 1 1 +1000000", api.ErrArg}, {"1 7 1 -6", api.ErrShort}, {"1 7 1 -7", api.ErrArg}, {"1 7 1 -8", api.ErrArg}, {"1 1000000 1 +1", api.ErrArg}, {"1 1000000 1 -999999", api.ErrShort}, {"1 1000000 1 -1000000", api.ErrArg},
		{"1 7 1 +9223372036854775807", api.ErrArg}, {"1 7 1 -9223372036854775808", api.ErrArg}, {"1 1000000 1 +9223372036854775807", api.ErrArg}, {"1 1 1 +4294967296", api.ErrArg}, {"1 1 1 -4294967296", api.ErrArg}, {"1 1 1 -1 x8000", api.ErrArg}, {"1 1 1 x8000 +0", api.ErrSyntax},
		{"2 1 1 +999999 +1 1 1 -1", api.ErrShort}, {"2 1 1 +999999 +1 1 1 -2", api.ErrArg}, {"2 1 1 +0 +1 999999 1 +1", api.ErrArg}, {"2 1 1 +0 +1 999999 1 -999999", api.ErrShort},
		// A later To of a row is compared with the one before.
		{"1 1 2 +0 +1 +999999", api.ErrShort}, {"1 1 2 +0 +1 +1000000", api.ErrArg}, {"1 1 2 +5 +1 -5", api.ErrShort}, {"1 1 2 +5 +1 -6", api.ErrArg}, {"1 1 2 +999999 +1 +1", api.ErrArg}, {"1 9 2 -8 +1 -1", api.ErrArg},
		// The first Edge is compared with 0, later ones with the one before, also in another row.
		{"1 1 1 +0 +0", api.ErrArg}, {"1 1 1 +0 -1", api.ErrArg}, {"1 1 1 +0 +1000001", api.ErrArg}, {"1 1 1 +0 +9223372036854775807", api.ErrArg}, {"1 1 1 +0 -9223372036854775808", api.ErrArg}, {"1 1 1 +0 +4294967297", api.ErrArg}, {"1 1 1 +0 x8000", api.ErrSyntax}, {"1 1 1 +0 +0 x8000", api.ErrArg},
		{"1 1 2 +0 +5 +0 -5", api.ErrArg}, {"1 1 2 +0 +5 +1 +999996", api.ErrArg}, {"1 1 3 +0 +5 +1 +999995", api.ErrShort}, {"1 1 3 +0 +5 +1 -4", api.ErrShort}, {"1 1 2 +0 +1000000 +1 +1", api.ErrArg}, {"1 1 2 +0 +1000000 +1 +9223372036854775807", api.ErrArg},
		{"2 1 1 +0 +5 1 1 +0 -5", api.ErrArg}, {"2 1 1 +0 +5 1 2 +0 -4", api.ErrShort}, {"2 1 1 +0 +5 1 2 +0 +999995", api.ErrShort}, {"2 1 1 +0 +5 1 1 +0 +999996", api.ErrArg}, {"2 1 1 +0 +1000000 1 1 +0 +1", api.ErrArg},
		// A To out of range comes before its Edge, and before what ends too early.
		{"1 1 1 -1 +0", api.ErrArg}, {"1 1 2 +0 +0", api.ErrArg}, {"3 1 1 +0 +1 1000000 0", api.ErrArg},
		// Numbers without an error that are no valid column: equal nodes, rows out of order, and edges twice.
		{"2 1 1 +0 +1 0 1 +0 +1", api.ErrArg}, {"3 1 1 +0 +1 5 1 +0 +1 0 1 +0 +1", api.ErrArg}, {"1 5 2 +0 +1 -1 +1", api.ErrArg}, {"1 5 2 -4 +9 +0 -1", api.ErrArg}, {"1 5 2 -4 +9 +0 +0", api.ErrArg}, {"1 5 2 -4 +9 +1 +0", api.ErrArg}, {"1 5 3 +0 +1 +1 +1 +1 -1", api.ErrArg}, {"2 1 1 +0 +5 1 1 +0 +0", api.ErrArg}, {"2 1 2 +0 +5 +1 +1 1 1 +0 -1", api.ErrArg},
		// They count only after the last number, and before the bytes that remain.
		{"2 1 1 +0 +1 0", api.ErrShort}, {"2 1 1 +0 +1 0 1 +0", api.ErrShort}, {"2 1 1 +0 +1 0 1 x8000", api.ErrSyntax}, {"2 1 1 +0 +1 0 1 +0 xffffffffffffffffff02", api.ErrLong}, {"2 1 1 +0 +1 0 1 +0 +1 7", api.ErrArg}, {"1 5 3 +0 +1 -1 +1", api.ErrShort}, {"1 5 2 +0 +1 -1 +1 0", api.ErrArg}, {"1 5 3 -4 +9 +1 +0 x8000", api.ErrSyntax}, {"1 5 2 -4 +9 +1 +0 x8000", api.ErrArg}, {"2 1 1 +0 +5 1 2 +0 +0", api.ErrShort},
		// The numbers of one encoding in another order or without one of them.
		{"1 2 1 +0 +1 0", api.ErrSyntax}, {"0 1 1 +0 +1", api.ErrSyntax}, {"0 0", api.ErrSyntax}, {"0 x8000", api.ErrSyntax}, {"x00ff", api.ErrSyntax}, {"x8000", api.ErrSyntax},
	} {
		decodeIs(t, coded(c.code), api.Column{}, c.want)
		if _, err := decoded(coded(c.code)); err != c.want {
			t.Errorf("%s: the definition says %d, not %d", c.code, err, c.want)
		}
	}
}

// P12.4: numbers that are those of a column which is not valid are rejected, but only after the last one.
func TestDecodeOfInvalidColumns(t *testing.T) {
	for _, c := range []api.Column{
		col("2 2", "0 1 2", "1 1", "1 2"), col("1 2 2", "0 1 2 3", "1 1 1", "1 2 3"), col("1", "0 2", "2 1", "1 2"), col("1", "0 2", "1 1", "2 1"), col("1", "0 2", "1 1", "1 1"), col("1", "0 2", "1 2", "1 1"), col("1 2", "0 1 2", "1 2", "1 1"), col("1 2 3", "0 1 2 3", "1 2 3", "7 8 7"), col("1 2", "0 1 3", "9 3 2", "1 2 3"),
	} {
		if isValid(c) {
			t.Errorf("the definition does not reject %+v", c)
		}
		b := encoded(c)
		decodeIs(t, b, api.Column{}, api.ErrArg)
		decodeIs(t, slices.Concat(b, []byte{0}), api.Column{}, api.ErrArg)
		for i := range b {
			decodeIs(t, b[:i], api.Column{}, api.ErrShort)
		}
	}
}

// P12.4, P12.5: all sequences of up to nine bytes of an alphabet that no shorter sequence decides: what Decode accepts is what Encode returns, and no column comes twice.
func TestDecodeOfAllSequences(t *testing.T) {
	accepted := map[string][]byte{}
	visits := 0
	var longer func(b []byte)
	longer = func(b []byte) {
		visits++
		want, err := decoded(b)
		c, e := column.Decode(b)
		if e != err || !same(c, want) {
			t.Errorf("Decode(% x) = %+v, %d, want %+v, %d", b, c, e, want, err)
		}
		if e == api.OK {
			if back := column.Encode(c); !slices.Equal(back, b) {
				t.Errorf("Decode(% x) = %+v, which is encoded as % x", b, c, back)
			}
			text := fmt.Sprintf("%v", c)
			if other, ok := accepted[text]; ok {
				t.Errorf("% x and % x are both decoded as %s", other, b, text)
			}
			accepted[text] = b
		}
		// Once all numbers are read, or one of them has an error, what follows can only be bytes that remain.
		if len(b) == 9 || e != api.ErrShort && e != api.OK {
			return
		}
		for _, next := range []byte{0, 1, 2, 3, 4, 0x80} {
			longer(append(slices.Clone(b), next))
		}
	}
	longer(nil)
	if len(accepted) < 10000 || visits < 1000000 {
		t.Errorf("%d of %d sequences are accepted", len(accepted), visits)
	}
}

// P12.4: pseudorandom encodings in which numbers are replaced, removed and added, by what Decode is defined to return.
func TestDecodeOfAnyBytes(t *testing.T) {
	source := rand.New(rand.NewSource(124))
	words := []string{"0", "1", "2", "3", "+0", "+1", "-1", "-2", "+999999", "1000000", "-999999", "1000001", "9223372036854775807", "+9223372036854775807", "-9223372036854775808", "x80", "x8000", "xff", "xffffffffffffffffff02", "xffffffffffffffffff01"}
	errs := map[api.Errno]int{}
	for range 30000 {
		b := encoded(someColumn(source))
		for range source.Intn(3) {
			all := append([]int{0}, ends(b)...)
			at := source.Intn(len(all))
			from, to := all[at], all[min(at+source.Intn(2), len(all)-1)]
			word := ""
			if source.Intn(4) > 0 {
				word = words[source.Intn(len(words))]
			}
			b = slices.Concat(b[:from], coded(word), b[to:])
		}
		if source.Intn(6) == 0 {
			b = b[:source.Intn(len(b)+1)]
		}
		want, err := decoded(b)
		decodeIs(t, b, want, err)
		errs[err]++
	}
	for _, err := range []api.Errno{api.OK, api.ErrArg, api.ErrShort, api.ErrLong, api.ErrSyntax} {
		if errs[err] < 300 {
			t.Errorf("only %d of the sequences lead to %d", errs[err], err)
		}
	}
}

// P12.4: what is rejected only at the end of many bytes.
func TestDecodeOfManyBytes(t *testing.T) {
	const n = 70000
	b := coded(fmt.Sprintf("1 1 %d", n))
	want := api.Column{Nodes: []int{1}, First: []int{0, n}}
	for i := range n {
		b = append(b, coded("+0 +1")...)
		want.To = append(want.To, 1)
		want.Edge = append(want.Edge, i+1)
	}
	decodeIs(t, b, want, api.OK)
	decodeIs(t, append(b, 0), api.Column{}, api.ErrSyntax)
	decodeIs(t, b[:len(b)-1], api.Column{}, api.ErrShort)
	decodeIs(t, append(b[:len(b)-2], coded("+0 -1")...), api.Column{}, api.ErrArg)
	decodeIs(t, make([]byte, 70000), api.Column{}, api.ErrSyntax)
	decodeIs(t, slices.Repeat([]byte{1}, 70000), api.Column{}, api.ErrArg)
	decodeIs(t, slices.Repeat([]byte{0xff}, 70000), api.Column{}, api.ErrLong)
}
