package codec_test

import (
	"bytes"
	"encoding/binary"
	"graphdb/api"
	"graphdb/codec"
	"hash/crc32"
	"math/rand"
	"slices"
	"strings"
	"testing"
)

// contents returns byte slices of all lengths near those at which the length of a varint changes, and pseudorandom ones.
func contents() [][]byte {
	l := [][]byte{nil, {}, {0}, {0xff}, {0x80}, []byte("123456789"), times(4, 0), times(4, 0xff), times(9, 0xff, 1)}
	source := rand.New(rand.NewSource(3))
	for _, n := range []int{1, 2, 3, 4, 5, 63, 64, 126, 127, 128, 129, 255, 256, 300, 1<<14 - 1, 1 << 14, 1<<14 + 1} {
		b := make([]byte, n)
		source.Read(b)
		l = append(l, b)
	}
	return l
}

// P5.7: known checksums, and those of another implementation of the same polynomial.
func TestSum(t *testing.T) {
	for s, want := range map[string]int{
		"":                 0,
		"123456789":        3421780262,
		"a":                0xe8b7be43,
		"abc":              0x352441c2,
		"\x00":             0xd202ef8d,
		"\x00\x00\x00\x00": 0x2144df1c,
		"\xff":             0xff000000,
		"\xff\xff\xff\xff": 0xffffffff,
		"The quick brown fox jumps over the lazy dog": 0x414fa339,
		strings.Repeat("\x00", 32):                    0x190a55ad,
	} {
		if got := codec.Sum([]byte(s)); got != want {
			t.Errorf("Sum(% x) = %x, want %x", s, got, want)
		}
	}
	all := contents()
	for c := range 256 {
		all = append(all, []byte{byte(c)}, []byte{0, byte(c)}, []byte{byte(c), 0x55, 0xff})
	}
	for _, b := range all {
		g := guarded(b)
		if got, want := codec.Sum(g), int(crc32.ChecksumIEEE(b)); got != want {
			t.Errorf("Sum of %d bytes = %x, want %x", len(b), got, want)
		}
		if !unchanged(g, b) {
			t.Errorf("Sum of %d bytes changed its argument", len(b))
		}
	}
}

// P5.8: a frame is the length, the bytes and the checksum, the least significant byte first.
func TestFrame(t *testing.T) {
	for s, want := range map[string]string{
		"":                 "\x00\x00\x00\x00\x00",
		"123456789":        "\x09123456789\x26\x39\xf4\xcb",
		"\x00":             "\x01\x00\x8d\xef\x02\xd2",
		"\xff":             "\x01\xff\x00\x00\x00\xff",
		"\xff\xff\xff\xff": "\x04\xff\xff\xff\xff\xff\xff\xff\xff",
	} {
		if got := codec.Frame([]byte(s)); string(got) != want {
			t.Errorf("Frame(% x) = % x, want % x", s, got, want)
		}
	}
	for _, b := range contents() {
		g := guarded(b)
		want := binary.LittleEndian.AppendUint32(append(binary.AppendUvarint(nil, uint64(len(b))), b...), crc32.ChecksumIEEE(b))
		if got := codec.Frame(g); !bytes.Equal(got, want) {
			t.Errorf("Frame of %d bytes = % x, want % x", len(b), got, want)
		}
		if !unchanged(g, b) {
			t.Errorf("Frame of %d bytes changed its argument", len(b))
		}
	}
}

// checkUnframe checks all results of Unframe, and that it leaves its argument as it was.
func checkUnframe(t *testing.T, b []byte, at int, content []byte, end int, err api.Errno) {
	t.Helper()
	g := guarded(b)
	if c, e, r := codec.Unframe(g, at); !bytes.Equal(c, content) || e != end || r != err {
		t.Fatalf("Unframe(% x, %d) = % x, %d, %d, want % x, %d, %d", b, at, c, e, r, content, end, err)
	}
	if !unchanged(g, b) {
		t.Fatalf("Unframe(% x, %d) changed its argument", b, at)
	}
}

// P5.8: Unframe with each error, in the order that the chapter gives.
func TestUnframe(t *testing.T) {
	whole := "\x09123456789\x26\x39\xf4\xcb"
	for _, c := range []struct {
		b       string
		at      int
		content string
		end     int
		err     api.Errno
	}{
		{whole, 0, "123456789", 14, api.OK},
		{"ab" + whole + "cd", 2, "123456789", 16, api.OK},
		{"\x00\x00\x00\x00\x00", 0, "", 5, api.OK},
		{"\x00\x00\x00\x00\x00\x00", 1, "", 6, api.OK},
		{whole, -1, "", 0, api.ErrArg},
		{whole, 15, "", 0, api.ErrArg},
		{whole, least, "", 0, api.ErrArg},
		{whole, greatest, "", 0, api.ErrArg},
		{"", 1, "", 0, api.ErrArg},
		{whole, 14, "", 0, api.ErrShort},
		{"", 0, "", 0, api.ErrShort},
		{"\x00", 0, "", 0, api.ErrShort},
		{"\x00\x00\x00\x00", 0, "", 0, api.ErrShort},
		{"\x01\x00\x00\x00\x00", 0, "", 0, api.ErrShort},
		{"\x89", 0, "", 0, api.ErrShort},
		{"\x89\x00123456789\x26\x39\xf4\xcb", 0, "", 0, api.ErrSyntax},
		{"\x89\x00", 0, "", 0, api.ErrSyntax},
		{"\x80\x00\x00\x00\x00\x00", 0, "", 0, api.ErrSyntax},
		{strings.Repeat("\x80", 9) + "\x01", 0, "", 0, api.ErrLong},
		{strings.Repeat("\x80", 10) + "\x00\x00\x00\x00", 0, "", 0, api.ErrLong},
		// Lengths to which the four bytes of the checksum cannot be added.
		{strings.Repeat("\xff", 8) + "\x7f\x00\x00\x00\x00", 0, "", 0, api.ErrShort},
		{"\xfc" + strings.Repeat("\xff", 7) + "\x7f\x00\x00\x00\x00", 0, "", 0, api.ErrShort},
		// The end of the input comes before a checksum that does not match.
		{"\x09x23456789\x26\x39\xf4", 0, "", 0, api.ErrShort},
		{"\x09x23456789\x26\x39\xf4\xcb", 0, "", 0, api.ErrSum},
		{"\x09123456789\xcb\xf4\x39\x26", 0, "", 0, api.ErrSum},
		{"\x09123456789\x00\x00\x00\x00", 0, "", 0, api.ErrSum},
		{"\x09213456789\x26\x39\xf4\xcb", 0, "", 0, api.ErrSum},
		{"\x00\x00\x00\x00\x01", 0, "", 0, api.ErrSum},
		// A frame whose length is changed has other bytes as its checksum, or too few.
		{"\x08123456789\x26\x39\xf4\xcb", 0, "", 0, api.ErrSum},
		{"\x00123456789\x26\x39\xf4\xcb", 0, "", 0, api.ErrSum},
		{"\x0a123456789\x26\x39\xf4\xcb", 0, "", 0, api.ErrShort},
		{"\x0a123456789\x26\x39\xf4\xcb\x00", 0, "", 0, api.ErrSum},
		{"\x89123456789\x26\x39\xf4\xcb", 0, "", 0, api.ErrShort},
	} {
		checkUnframe(t, []byte(c.b), c.at, []byte(c.content), c.end, c.err)
	}
}

// P5.8, P5.9: what Frame wrote is read back between any other bytes, and no part of it is.
func TestFramesAreReadBack(t *testing.T) {
	for _, content := range contents() {
		whole := codec.Frame(content)
		for _, other := range around() {
			before, after := []byte(other[0]), []byte(other[1])
			checkUnframe(t, slices.Concat(before, whole, after), len(before), content, len(before)+len(whole), api.OK)
		}
		for n := range whole {
			if n > 300 && n < len(whole)-10 {
				continue
			}
			checkUnframe(t, whole[:n], 0, nil, 0, api.ErrShort)
			checkUnframe(t, append([]byte{0x81, 7}, whole[:n]...), 2, nil, 0, api.ErrShort)
		}
	}
}

// P5.9: a frame of which one byte of the content or of the checksum is changed, in any way, has another checksum.
func TestFramesWithOneByteChanged(t *testing.T) {
	for _, content := range contents() {
		if len(content) > 300 {
			continue
		}
		head := len(codec.PutUint(len(content)))
		for _, before := range []string{"", "\x80\x80"} {
			b := append([]byte(before), codec.Frame(content)...)
			for i := len(before) + head; i < len(b); i++ {
				for change := 1; change < 256; change++ {
					b[i] ^= byte(change)
					if c, end, err := codec.Unframe(b, len(before)); len(c) != 0 || end != 0 || err != api.ErrSum {
						t.Fatalf("Unframe(% x) with byte %d changed = % x, %d, %d, want ErrSum", b, i, c, end, err)
					}
					b[i] ^= byte(change)
				}
			}
		}
	}
}

// P5.8, R4: what a caller appends to the content of a frame does not reach the bytes behind it.
func TestContentHasNoRoom(t *testing.T) {
	b := append(codec.Frame([]byte("ab")), codec.Frame([]byte("cd"))...)
	before := slices.Clone(b)
	content, end, _ := codec.Unframe(b, 0)
	if got := append(content, "xyz"...); string(got) != "abxyz" || !bytes.Equal(b, before) {
		t.Errorf("after an append to the content the frames are % x, want % x", b, before)
	}
	if content, _, err := codec.Unframe(b, end); string(content) != "cd" || err != api.OK {
		t.Errorf("the second frame = %q, %d", content, err)
	}
}
