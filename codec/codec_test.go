package codec_test

import (
	"bytes"
	"encoding/binary"
	"graphdb/api"
	"graphdb/codec"
	"math"
	"math/big"
	"math/rand"
	"slices"
	"strings"
	"testing"
)

// least and greatest are the ends of int.
const (
	least    = math.MinInt
	greatest = math.MaxInt
)

// times returns n times the byte c, followed by the bytes of tail.
func times(n int, c byte, tail ...byte) []byte {
	return append(bytes.Repeat([]byte{c}, n), tail...)
}

// guarded returns a slice with the bytes of b and, in its capacity behind them, bytes that no function may change.
func guarded(b []byte) []byte {
	return append(slices.Clone(b), "guard"...)[:len(b)]
}

// unchanged reports whether the guarded slice b still has the bytes of before, and the same bytes behind them.
func unchanged(b, before []byte) bool {
	return bytes.Equal(b, before) && string(b[len(b):len(b)+5]) == "guard"
}

// around returns pairs of other bytes that may stand before and after an encoding, among them those that would change its meaning if they were read.
func around() [][2]string {
	frame := string(codec.Frame([]byte("ab")))
	return [][2]string{
		{"", ""}, {"\x00", "\x00"}, {"\x01", "\x01"}, {"\x80", "\x80"}, {"\xff", "\xff"}, {"\x08\x01", "\x7f"},
		{strings.Repeat("\x80", 20), strings.Repeat("\xff", 20)}, {frame, frame}, {"", "\x80\x00"}, {"\x09", ""},
	}
}

// integers returns the numbers at which the length of a varint changes, those beside them, pseudorandom ones, and their negatives.
func integers() []int {
	l := []int{0, least, least + 1, greatest, greatest - 1, api.MaxInt, api.MaxInt + 1, 300}
	for i := range 63 {
		l = append(l, 1<<i-1, 1<<i, 1<<i+1)
	}
	source := rand.New(rand.NewSource(1))
	for range 5000 {
		l = append(l, int(source.Uint64()>>source.Intn(64)))
	}
	for _, n := range slices.Clone(l) {
		l = append(l, -n)
	}
	return l
}

// P5.1: PutUint returns the minimal varint, and nil for a negative number.
func TestPutUint(t *testing.T) {
	for _, c := range []struct {
		n    int
		want []byte
	}{
		{0, []byte{0}}, {1, []byte{1}}, {127, []byte{0x7f}}, {128, []byte{0x80, 1}}, {129, []byte{0x81, 1}}, {255, []byte{0xff, 1}}, {256, []byte{0x80, 2}}, {300, []byte{0xac, 2}},
		{1<<14 - 1, []byte{0xff, 0x7f}}, {1 << 14, []byte{0x80, 0x80, 1}}, {624485, []byte{0xe5, 0x8e, 0x26}},
		{1<<56 - 1, times(7, 0xff, 0x7f)}, {1 << 56, times(8, 0x80, 1)}, {1 << 62, times(8, 0x80, 0x40)}, {greatest, times(8, 0xff, 0x7f)},
		{-1, nil}, {-127, nil}, {-128, nil}, {least + 1, nil}, {least, nil},
	} {
		if got := codec.PutUint(c.n); !bytes.Equal(got, c.want) {
			t.Errorf("PutUint(%d) = % x, want % x", c.n, got, c.want)
		}
	}
	for _, n := range integers() {
		var want []byte
		if n >= 0 {
			want = binary.AppendUvarint(nil, uint64(n))
		}
		if got := codec.PutUint(n); !bytes.Equal(got, want) {
			t.Errorf("PutUint(%d) = % x, want % x", n, got, want)
		}
	}
}

// P5.1: PutInt returns the minimal varint of the zigzag form of every int.
func TestPutInt(t *testing.T) {
	for _, c := range []struct {
		n    int
		want []byte
	}{
		{0, []byte{0}}, {-1, []byte{1}}, {1, []byte{2}}, {-2, []byte{3}}, {2, []byte{4}}, {63, []byte{0x7e}}, {-64, []byte{0x7f}}, {64, []byte{0x80, 1}}, {-65, []byte{0x81, 1}},
		{127, []byte{0xfe, 1}}, {128, []byte{0x80, 2}}, {-128, []byte{0xff, 1}}, {-129, []byte{0x81, 2}},
		{1<<62 - 1, times(1, 0xfe, times(7, 0xff, 0x7f)...)}, {-1 << 62, times(8, 0xff, 0x7f)}, {1 << 62, times(9, 0x80, 1)}, {-1<<62 - 1, times(1, 0x81, times(8, 0x80, 1)...)},
		{greatest, times(1, 0xfe, times(8, 0xff, 1)...)}, {least + 1, times(1, 0xfd, times(8, 0xff, 1)...)}, {least, times(9, 0xff, 1)},
	} {
		if got := codec.PutInt(c.n); !bytes.Equal(got, c.want) {
			t.Errorf("PutInt(%d) = % x, want % x", c.n, got, c.want)
		}
	}
	for _, n := range integers() {
		if got, want := codec.PutInt(n), binary.AppendVarint(nil, int64(n)); !bytes.Equal(got, want) {
			t.Errorf("PutInt(%d) = % x, want % x", n, got, want)
		}
	}
}

// P5.2: PutStr returns the length and the bytes, whatever they are.
func TestPutStr(t *testing.T) {
	for s, head := range map[string]string{
		"":                         "\x00",
		"ab":                       "\x02",
		"\x00":                     "\x01",
		"\x80\xff\x00":             "\x03",
		"é":                        "\x02",
		strings.Repeat("x", 100):   "\x64",
		strings.Repeat("x", 127):   "\x7f",
		strings.Repeat("x", 128):   "\x80\x01",
		strings.Repeat("xyz", 100): "\xac\x02",
		strings.Repeat("x", 1<<14): "\x80\x80\x01",
	} {
		if got := codec.PutStr(s); string(got) != head+s {
			t.Errorf("PutStr(%q) = % x, want % x", s, got, head+s)
		}
	}
}

// varintOf reads a varint of a number of at most most step by step as P5.4 names the errors, in integers of arbitrary size.
func varintOf(b []byte, at int, most *big.Int) (*big.Int, int, api.Errno) {
	if at < 0 || at > len(b) {
		return new(big.Int), 0, api.ErrArg
	}
	rest, last := b[at:], 0
	for last < len(rest) && rest[last] >= 128 {
		last++
	}
	if last >= 10 {
		return new(big.Int), 0, api.ErrLong
	}
	if last == len(rest) {
		return new(big.Int), 0, api.ErrShort
	}
	sum := new(big.Int)
	for i := last; i >= 0; i-- {
		sum.Mul(sum, big.NewInt(128)).Add(sum, big.NewInt(int64(rest[i]%128)))
	}
	if sum.Cmp(most) > 0 {
		return new(big.Int), 0, api.ErrLong
	}
	if last > 0 && rest[last] == 0 {
		return new(big.Int), 0, api.ErrSyntax
	}
	return sum, at + last + 1, api.OK
}

// checkVarint compares Uint and Int at one offset with varintOf.
func checkVarint(t *testing.T, b []byte, at int) {
	t.Helper()
	g := guarded(b)
	want, end, err := varintOf(b, at, big.NewInt(greatest))
	if n, e, c := codec.Uint(g, at); n != int(want.Int64()) || e != end || c != err {
		t.Fatalf("Uint(% x, %d) = %d, %d, %d, want %d, %d, %d", b, at, n, e, c, want, end, err)
	}
	want, end, err = varintOf(b, at, new(big.Int).SetUint64(math.MaxUint64))
	// The form 2n stands for n, the form 2n - 1 for -n.
	if want.Bit(0) == 1 {
		want.Add(want, big.NewInt(1)).Neg(want)
	}
	want.Quo(want, big.NewInt(2))
	if n, e, c := codec.Int(g, at); n != int(want.Int64()) || e != end || c != err {
		t.Fatalf("Int(% x, %d) = %d, %d, %d, want %d, %d, %d", b, at, n, e, c, want, end, err)
	}
	if !unchanged(g, b) {
		t.Fatalf("Uint or Int of % x at %d changed its argument", b, at)
	}
}

// result is what Uint and Int return.
type result struct {
	n, end int
	err    api.Errno
}

// checkResults compares Uint and Int at one offset with what is wanted.
func checkResults(t *testing.T, comment string, b []byte, at int, wantUint, wantInt result) {
	t.Helper()
	g := guarded(b)
	n, end, err := codec.Uint(g, at)
	if (result{n, end, err}) != wantUint {
		t.Errorf("%s: Uint(% x, %d) = %d, %d, %d, want %v", comment, b, at, n, end, err, wantUint)
	}
	n, end, err = codec.Int(g, at)
	if (result{n, end, err}) != wantInt {
		t.Errorf("%s: Int(% x, %d) = %d, %d, %d, want %v", comment, b, at, n, end, err, wantInt)
	}
	if !unchanged(g, b) {
		t.Errorf("%s: Uint or Int of % x changed its argument", comment, b)
	}
}

// P5.4: the numbers at which the length of a varint changes, and those that only a zigzag form may be.
func TestUintAndInt(t *testing.T) {
	failed := result{err: api.ErrLong}
	for _, c := range []struct {
		b                 []byte
		at                int
		wantUint, wantInt result
		comment           string
	}{
		{[]byte{0}, 0, result{0, 1, api.OK}, result{0, 1, api.OK}, "zero"},
		{[]byte{1}, 0, result{1, 1, api.OK}, result{-1, 1, api.OK}, "one"},
		{[]byte{0x7f}, 0, result{127, 1, api.OK}, result{-64, 1, api.OK}, "the greatest of one byte"},
		{[]byte{0x80, 1}, 0, result{128, 2, api.OK}, result{64, 2, api.OK}, "the least of two bytes"},
		{[]byte{0xac, 2}, 0, result{300, 2, api.OK}, result{150, 2, api.OK}, "300"},
		{times(8, 0x80, 1), 0, result{1 << 56, 9, api.OK}, result{1 << 55, 9, api.OK}, "nine bytes"},
		{times(8, 0xff, 0x7f), 0, result{greatest, 9, api.OK}, result{-1 << 62, 9, api.OK}, "2^63 - 1"},
		{times(9, 0x80, 1), 0, failed, result{1 << 62, 10, api.OK}, "2^63"},
		{times(9, 0xff, 1), 0, failed, result{least, 10, api.OK}, "2^64 - 1"},
		{times(1, 0xfe, times(8, 0xff, 1)...), 0, failed, result{greatest, 10, api.OK}, "2^64 - 2"},
		{[]byte{9, 0xac, 2, 9}, 1, result{300, 3, api.OK}, result{150, 3, api.OK}, "between other bytes"},
		{[]byte{9, 0xac, 2, 9}, 2, result{2, 3, api.OK}, result{1, 3, api.OK}, "the last byte of another"},
		{times(10, 0x80, 5), 10, result{5, 11, api.OK}, result{-3, 11, api.OK}, "behind ten bytes that continue"},
		{times(12, 0x80, 5), 4, result{5 << 56, 13, api.OK}, result{5 << 55, 13, api.OK}, "a ninth byte of 5"},
	} {
		checkResults(t, c.comment, c.b, c.at, c.wantUint, c.wantInt)
	}
}

// P5.4: the errors that Uint and Int have in common, with zeros beside them.
func TestUintAndIntErrors(t *testing.T) {
	for _, c := range []struct {
		b       []byte
		at      int
		want    api.Errno
		comment string
	}{
		{times(9, 0x80, 2), 0, api.ErrLong, "2^64"},
		{times(9, 0xff, 2), 0, api.ErrLong, "beyond 2^64"},
		{times(9, 0xff, 3), 0, api.ErrLong, "beyond 2^64, with the lowest bit of the tenth byte"},
		{times(9, 0x80, 0x7f), 0, api.ErrLong, "the greatest tenth byte"},
		{times(10, 0x80), 0, api.ErrLong, "ten bytes that continue, and no more"},
		{times(10, 0x80, 0), 0, api.ErrLong, "ten bytes that continue, and a last one"},
		{times(9, 0x80, 0x81), 0, api.ErrLong, "ten bytes that continue, the last with a bit"},
		{times(10, 0xff, 1), 0, api.ErrLong, "eleven bytes"},
		{times(1000, 0x80), 0, api.ErrLong, "a thousand bytes that continue"},
		{times(9, 0x80, 0), 0, api.ErrSyntax, "a tenth byte of 0"},
		{times(9, 0xff, 0), 0, api.ErrSyntax, "2^63 - 1 and a tenth byte of 0"},
		{times(8, 0x80, 0), 0, api.ErrSyntax, "a ninth byte of 0"},
		{[]byte{0x80, 0}, 0, api.ErrSyntax, "zero in two bytes"},
		{[]byte{0xff, 0}, 0, api.ErrSyntax, "127 in two bytes"},
		{[]byte{0x80, 0x80, 0}, 0, api.ErrSyntax, "zero in three bytes"},
		{[]byte{0x80, 0, 0x80}, 0, api.ErrSyntax, "bytes after one that is not minimal"},
		{[]byte{0x80}, 0, api.ErrShort, "one byte that continues"},
		{times(9, 0x80), 0, api.ErrShort, "nine bytes that continue"},
		{times(9, 0xff), 0, api.ErrShort, "nine bytes that continue, with all bits"},
		{nil, 0, api.ErrShort, "no bytes"},
		{[]byte{}, 0, api.ErrShort, "no bytes"},
		{[]byte{5}, 1, api.ErrShort, "the end"},
		{[]byte{5}, 2, api.ErrArg, "after the end"},
		{[]byte{5}, -1, api.ErrArg, "before the start"},
		{[]byte{5}, least, api.ErrArg, "far before the start"},
		{[]byte{5}, greatest, api.ErrArg, "far after the end"},
		{nil, 1, api.ErrArg, "after the end of no bytes"},
		{nil, -1, api.ErrArg, "before the start of no bytes"},
		{times(12, 0x80, 5), 3, api.ErrLong, "a tenth byte of 5 behind other bytes"},
	} {
		checkResults(t, c.comment, c.b, c.at, result{err: c.want}, result{err: c.want})
	}
}

// P5.4, P5.9: all short inputs and many long ones, at each offset in and beside them.
func TestUintAndIntOfMany(t *testing.T) {
	for a := range 256 {
		for b := range 256 {
			for at := -1; at <= 3; at++ {
				checkVarint(t, []byte{byte(a), byte(b)}, at)
			}
		}
	}
	source := rand.New(rand.NewSource(2))
	last := []byte{0, 1, 2, 3, 0x7e, 0x7f}
	for range 100000 {
		b := make([]byte, source.Intn(12))
		for i := range b {
			b[i] = byte(source.Intn(256)) | 0x80
			if source.Intn(12) == 0 {
				b[i] &= 0x7f
			}
		}
		if len(b) > 0 && source.Intn(4) > 0 {
			b[len(b)-1] = last[source.Intn(len(last))]
		}
		checkVarint(t, b, 0)
		checkVarint(t, b, source.Intn(len(b)+3)-1)
	}
}

// P5.9: what PutUint and PutInt wrote is read back between any other bytes.
func TestIntegersAreReadBack(t *testing.T) {
	for _, n := range integers() {
		for _, other := range around() {
			before, after := other[0], other[1]
			b := slices.Concat([]byte(before), codec.PutInt(n), []byte(after))
			if got, end, err := codec.Int(b, len(before)); got != n || end != len(b)-len(after) || err != api.OK {
				t.Fatalf("Int(% x, %d) = %d, %d, %d, want %d", b, len(before), got, end, err, n)
			}
			if n < 0 {
				continue
			}
			b = slices.Concat([]byte(before), codec.PutUint(n), []byte(after))
			if got, end, err := codec.Uint(b, len(before)); got != n || end != len(b)-len(after) || err != api.OK {
				t.Fatalf("Uint(% x, %d) = %d, %d, %d, want %d", b, len(before), got, end, err, n)
			}
		}
	}
}

// P5.5: Str at the limits, at the end of the input and with each error of the length.
func TestStr(t *testing.T) {
	long := strings.Repeat("x", 300)
	for _, c := range []struct {
		b        string
		at, most int
		s        string
		end      int
		err      api.Errno
	}{
		{"\x00", 0, 0, "", 1, api.OK},
		{"\x00", 0, 5, "", 1, api.OK},
		{"\x00abc", 0, 5, "", 1, api.OK},
		{"\x02ab", 0, 2, "ab", 3, api.OK},
		{"\x02ab", 0, 3, "ab", 3, api.OK},
		{"\x02ab", 0, greatest, "ab", 3, api.OK},
		{"\x02abc", 0, 2, "ab", 3, api.OK},
		{"xy\x02abc", 2, 2, "ab", 5, api.OK},
		{"\x04\x00\x80\xff\n", 0, 4, "\x00\x80\xff\n", 5, api.OK},
		{"\xac\x02" + long, 0, 300, long, 302, api.OK},
		{"\xac\x02" + long, 0, 299, "", 0, api.ErrLong},
		{"\x02ab", 0, 1, "", 0, api.ErrLong},
		{"\x02ab", 0, 0, "", 0, api.ErrLong},
		{"\x02ab", 0, -1, "", 0, api.ErrLong},
		{"\x02ab", 0, least, "", 0, api.ErrLong},
		{"\x00", 0, -1, "", 0, api.ErrLong},
		{"\x00", 0, least, "", 0, api.ErrLong},
		{"\x03ab", 0, 2, "", 0, api.ErrLong},
		{"\x03ab", 0, 3, "", 0, api.ErrShort},
		{"\x03", 0, 3, "", 0, api.ErrShort},
		{"\x01", 0, 1, "", 0, api.ErrShort},
		{"ab\x01", 2, 1, "", 0, api.ErrShort},
		{"ab\x02c", 2, 9, "", 0, api.ErrShort},
		{"\xff\xff\xff\xff\xff\xff\xff\xff\x7fab", 0, greatest, "", 0, api.ErrShort},
		{"\xff\xff\xff\xff\xff\xff\xff\xff\x7fab", 0, greatest - 1, "", 0, api.ErrLong},
		{"\x80\x80\x80\x80\x80\x80\x80\x80\x80\x01ab", 0, greatest, "", 0, api.ErrLong},
		{"\x80\x80\x80\x80\x80\x80\x80\x80\x80\x80ab", 0, greatest, "", 0, api.ErrLong},
		{"\x82\x00ab", 0, 9, "", 0, api.ErrSyntax},
		{"\x82\x00ab", 0, 1, "", 0, api.ErrSyntax},
		{"\x82\x00a", 0, 9, "", 0, api.ErrSyntax},
		{"\x82", 0, -1, "", 0, api.ErrShort},
		{"", 0, 9, "", 0, api.ErrShort},
		{"", 0, -1, "", 0, api.ErrShort},
		{"\x00", 1, 9, "", 0, api.ErrShort},
		{"\x00", 2, 9, "", 0, api.ErrArg},
		{"\x00", 2, -1, "", 0, api.ErrArg},
		{"\x00", -1, 9, "", 0, api.ErrArg},
		{"\x00", least, 9, "", 0, api.ErrArg},
		{"\x00", greatest, 9, "", 0, api.ErrArg},
	} {
		g := guarded([]byte(c.b))
		if s, end, err := codec.Str(g, c.at, c.most); s != c.s || end != c.end || err != c.err {
			t.Errorf("Str(% x, %d, %d) = %q, %d, %d, want %q, %d, %d", c.b, c.at, c.most, s, end, err, c.s, c.end, c.err)
		}
		if !unchanged(g, []byte(c.b)) {
			t.Errorf("Str(% x, %d, %d) changed its argument", c.b, c.at, c.most)
		}
	}
}

// P5.9: what PutStr wrote is read back between any other bytes, with the least limit that allows it and not with one below it, and no part of it is.
func TestStringsAreReadBack(t *testing.T) {
	all := make([]byte, 256)
	for i := range all {
		all[i] = byte(i)
	}
	for _, s := range []string{"", "a", "\x00", "\xff\x80", "it's", string(all), string(all[:127]), string(all[:128]), strings.Repeat("\x80", 1<<14)} {
		for _, other := range around() {
			before, after := other[0], other[1]
			b := slices.Concat([]byte(before), codec.PutStr(s), []byte(after))
			if got, end, err := codec.Str(b, len(before), len(s)); got != s || end != len(b)-len(after) || err != api.OK {
				t.Errorf("Str(% x, %d) = %q, %d, %d", b, len(before), got, end, err)
			}
			if got, end, err := codec.Str(b, len(before), len(s)-1); got != "" || end != 0 || err != api.ErrLong {
				t.Errorf("Str(% x, %d) below the length = %q, %d, %d", b, len(before), got, end, err)
			}
		}
		whole := codec.PutStr(s)
		for n := range min(len(whole), 300) {
			if got, end, err := codec.Str(whole[:n], 0, len(s)); got != "" || end != 0 || err != api.ErrShort {
				t.Errorf("Str(% x) = %q, %d, %d, want ErrShort", whole[:n], got, end, err)
			}
		}
	}
}

// R4: what a caller appends to a result does not show in what another one appends to it.
func TestResultsHaveNoRoom(t *testing.T) {
	v := api.Value{Kind: api.VList, L: []api.Value{{Kind: api.VStr, S: "abc"}, {Kind: api.VInt, N: 1000}}}
	for name, b := range map[string][]byte{
		"PutUint": codec.PutUint(1 << 40), "PutInt": codec.PutInt(-1 << 40), "PutStr": codec.PutStr("abcdef"), "PutValue": codec.PutValue(v), "Frame": codec.Frame([]byte("abc")),
	} {
		first, second := append(b, 1), append(b, 2)
		if first[len(b)] != 1 || second[len(b)] != 2 {
			t.Errorf("the result of %s has room that two appends share", name)
		}
	}
}
