// Package word is layer 1: see shared/doc/01-word.md.
package word

import (
	"math/bits"

	"quitclaim/api"
)

// size is how many bytes a word has.
const size = 4

// most is how many bytes a number has at most.
const most = 8

// Left turns a word to the left.
func Left(w uint32, n int) uint32 { return bits.RotateLeft32(w, n) }

// Right turns a word to the right.
func Right(w uint32, n int) uint32 { return bits.RotateLeft32(w, -n) }

// Bytes is words as bytes.
func Bytes(l []uint32) string {
	b := make([]byte, 0, size*len(l))
	for _, w := range l {
		b = append(b, byte(w>>24), byte(w>>16), byte(w>>8), byte(w))
	}
	return string(b)
}

// Words is bytes as words.
func Words(s string) ([]uint32, api.Errno) {
	if len(s)%size != 0 {
		return nil, api.ErrForm
	}
	l := make([]uint32, len(s)/size)
	for i := range l {
		w := uint32(0)
		for j := range size {
			w = w<<8 | uint32(s[size*i+j])
		}
		l[i] = w
	}
	return l, api.OK
}

// Bit is a bit of a text.
func Bit(s string, i int) (int, bool) {
	if i < 0 || i/8 >= len(s) {
		return 0, false
	}
	return int(s[i/8] >> (7 - i%8) & 1), true
}

// Number is a number as bytes.
func Number(v uint64, n int) (string, bool) {
	if n < 0 || n > most || v>>(8*n) != 0 {
		return "", false
	}
	var b [most]byte
	for i := range most {
		b[i] = byte(v >> (8 * (most - 1 - i)))
	}
	return string(b[most-n:]), true
}

// Value is bytes as a number.
func Value(s string) (uint64, bool) {
	if len(s) > most {
		return 0, false
	}
	v := uint64(0)
	for i := range len(s) {
		v = v<<8 | uint64(s[i])
	}
	return v, true
}
