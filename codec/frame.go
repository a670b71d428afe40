package codec

import (
	"graphdb/api"
)

// sumSize is the number of bytes of a checksum in a frame.
const sumSize = 4

// halfSums holds, for each half of a byte, what four steps of the division by the polynomial add to the checksum. A table for whole bytes would be too large for the package level.
var halfSums = [16]uint32{
	0x00000000, 0x1DB71064, 0x3B6E20C8, 0x26D930AC,
	0x76DC4190, 0x6B6B51F4, 0x4DB26158, 0x5005713C,
	0xEDB88320, 0xF00F9344, 0xD6D6A3E8, 0xCB61B38C,
	0x9B64C2B0, 0x86D3D2D4, 0xA00AE278, 0xBDBDF21C,
}

// Sum returns the CRC-32 of b.
func Sum(b []byte) int {
	sum := uint32(0xFFFFFFFF)
	for _, c := range b {
		sum ^= uint32(c)
		sum = sum>>4 ^ halfSums[sum&15]
		sum = sum>>4 ^ halfSums[sum&15]
	}
	return int(sum ^ 0xFFFFFFFF)
}

// Frame returns b behind its length as a varint and before its checksum.
func Frame(b []byte) []byte {
	head := PutUint(len(b))
	out := make([]byte, len(head)+len(b)+sumSize)
	at := copy(out, head)
	at += copy(out[at:], b)
	copy(out[at:], putSum(Sum(b)))
	return out
}

// Unframe reads the frame that begins at offset at, and returns its content and the offset after the frame.
func Unframe(b []byte, at int) ([]byte, int, api.Errno) {
	n, start, err := Uint(b, at)
	if err != api.OK {
		return nil, 0, err
	}
	if n > len(b)-start-sumSize {
		return nil, 0, api.ErrShort
	}
	end := start + n
	// Without room behind it: what a caller appends must not overwrite the checksum in b.
	content := b[start:end:end]
	if string(putSum(Sum(content))) != string(b[end:end+sumSize]) {
		return nil, 0, api.ErrSum
	}
	return content, end + sumSize, api.OK
}

// putSum returns the bytes of a checksum, the least significant byte first.
func putSum(sum int) []byte {
	return []byte{byte(sum), byte(sum >> 8), byte(sum >> 16), byte(sum >> 24)}
}
