package word_test

import (
	"bytes"
	"math"
	"slices"
	"strings"
	"testing"

	"quitclaim/api"
	"quitclaim/word"
)

// someWords are words with bits at both ends, alone and together.
func someWords() []uint32 {
	l := []uint32{0, 3, 0x80000001, 0x12345678, 0x89abcdef, 0xaaaaaaaa, 0x0000ffff, math.MaxUint32 - 1, math.MaxUint32}
	for i := range 32 {
		l = append(l, 1<<i)
	}
	return l
}

// someTurns are counts of bits, far beyond a word's, too.
func someTurns() []int {
	l := []int{math.MinInt, math.MinInt + 1, math.MinInt + 31, math.MaxInt, math.MaxInt - 1, math.MaxInt - 31, 1 << 20, -1 << 20, 1<<32 + 5, -1<<32 - 5}
	for n := -100; n <= 100; n++ {
		l = append(l, n)
	}
	return l
}

// turned moves each bit by itself: bit i goes to i + n.
func turned(w uint32, n int) uint32 {
	n = (n%32 + 32) % 32
	out := uint32(0)
	for i := range 32 {
		if w>>i&1 == 1 {
			out |= 1 << ((i + n) % 32)
		}
	}
	return out
}

// P1.1.
func TestTurns(t *testing.T) {
	for _, w := range someWords() {
		for _, n := range someTurns() {
			if got, want := word.Left(w, n), turned(w, n); got != want {
				t.Fatalf("Left(%x, %d) is %x, not %x", w, n, got, want)
			}
			if got, want := word.Right(w, n), turned(w, 32-n%32); got != want {
				t.Fatalf("Right(%x, %d) is %x, not %x", w, n, got, want)
			}
		}
	}
}

// P1.1.
func TestTurnsOfTheDocument(t *testing.T) {
	if got := word.Left(0x80000001, 1); got != 3 {
		t.Errorf("%x", got)
	}
	if got := word.Left(0x12345678, 8); got != 0x34567812 {
		t.Errorf("%x", got)
	}
	if got := word.Right(0x12345678, 8); got != 0x78123456 {
		t.Errorf("%x", got)
	}
	if got := word.Left(0x12345678, -8); got != 0x78123456 {
		t.Errorf("%x", got)
	}
	if got := word.Right(0x12345678, -40); got != 0x34567812 {
		t.Errorf("%x", got)
	}
}

// P1.1.
func TestBytes(t *testing.T) {
	for _, c := range []struct {
		l []uint32
		s string
	}{
		{nil, ""},
		{[]uint32{}, ""},
		{[]uint32{0}, "\x00\x00\x00\x00"},
		{[]uint32{1}, "\x00\x00\x00\x01"},
		{[]uint32{0x01020304}, "\x01\x02\x03\x04"},
		{[]uint32{0xff00fe80}, "\xff\x00\xfe\x80"},
		{[]uint32{0xfffefdfc, 0, 0x80000000}, "\xff\xfe\xfd\xfc\x00\x00\x00\x00\x80\x00\x00\x00"},
	} {
		if got := word.Bytes(c.l); got != c.s {
			t.Errorf("Bytes(%x) is %q, not %q", c.l, got, c.s)
		}
		if got, e := word.Words(c.s); e != api.OK || !slices.Equal(got, c.l) {
			t.Errorf("Words(%q) is %x, %d, not %x", c.s, got, e, c.l)
		}
	}
}

// P1.1.
func TestWordsRefused(t *testing.T) {
	for n := range 70 {
		l, e := word.Words(strings.Repeat("z", n))
		want := api.OK
		count := n / 4
		if n%4 != 0 {
			want = api.ErrForm
			count = 0
		}
		if e != want || len(l) != count {
			t.Errorf("%d bytes: %x, %d", n, l, e)
		}
	}
}

// The Rules: nothing of what is handed in is changed, and what is told is new.
func TestMemory(t *testing.T) {
	room := []uint32{1, 2, 3, 4}
	if got := word.Bytes(room[:2]); got != "\x00\x00\x00\x01\x00\x00\x00\x02" {
		t.Errorf("%q", got)
	}
	if !slices.Equal(room, []uint32{1, 2, 3, 4}) {
		t.Error(room)
	}
	a, _ := word.Words("abcdefgh")
	b, _ := word.Words("abcdefgh")
	a[0], a[1] = 0, 0
	if !slices.Equal(b, []uint32{0x61626364, 0x65666768}) {
		t.Errorf("%x", b)
	}
	if c, _ := word.Words("abcdefgh"); !slices.Equal(c, b) {
		t.Errorf("%x", c)
	}
}

// P1.2.
func TestWordsOfBytes(t *testing.T) {
	all := someWords()
	for n := range len(all) + 1 {
		got, e := word.Words(word.Bytes(all[:n]))
		if e != api.OK || !slices.Equal(got, all[:n]) {
			t.Fatalf("%x, %d, not %x", got, e, all[:n])
		}
	}
	every := make([]byte, 256)
	for i := range every {
		every[i] = byte(i)
	}
	l, e := word.Words(string(every))
	if e != api.OK || word.Bytes(l) != string(every) {
		t.Errorf("%x, %d", l, e)
	}
}

// P1.1.
func TestBit(t *testing.T) {
	for _, s := range []string{"", "\x40", "\x80", "\x01", "\x00", "\xff", "a\x00\xffz", "\u00e4\u20ac", strings.Repeat("\x12\xed", 40)} {
		for i := range 8 * len(s) {
			want := 0
			if s[i/8]&(128>>(i%8)) != 0 {
				want = 1
			}
			if got, ok := word.Bit(s, i); got != want || !ok {
				t.Fatalf("Bit(%q, %d) is %d, %v", s, i, got, ok)
			}
		}
		for _, i := range []int{math.MinInt, math.MinInt + 1, -64, -9, -8, -7, -1, 8 * len(s), 8*len(s) + 1, 8*len(s) + 7, 8*len(s) + 8, 1 << 32, 1 << 40, math.MaxInt - 7, math.MaxInt} {
			if got, ok := word.Bit(s, i); got != 0 || ok {
				t.Fatalf("Bit(%q, %d) is %d, %v", s, i, got, ok)
			}
		}
	}
	if got, ok := word.Bit("\x40", 1); got != 1 || !ok {
		t.Error(got, ok)
	}
}

// greatest is the greatest number of so many bytes.
func greatest(n int) uint64 {
	v := uint64(0)
	for range n {
		v = v<<8 | 255
	}
	return v
}

// someNumbers stand at both ends of each count of bytes.
func someNumbers() []uint64 {
	l := []uint64{300, 0x0102030405060708, 0xfedcba9876543210, 1 << 63}
	for n := range 9 {
		v := greatest(n)
		l = append(l, v, v-1, v+1)
	}
	for i := range 64 {
		l = append(l, 1<<i)
	}
	return l
}

// inBytes is a number as n bytes, by division, and what is left of it.
func inBytes(v uint64, n int) (string, uint64) {
	b := make([]byte, n)
	for i := n - 1; i >= 0; i-- {
		b[i] = byte(v % 256)
		v /= 256
	}
	return string(b), v
}

// P1.1, P1.2.
func TestNumber(t *testing.T) {
	for _, v := range someNumbers() {
		for n := range 9 {
			want, left := inBytes(v, n)
			if left != 0 {
				want = ""
			}
			got, ok := word.Number(v, n)
			if got != want || ok != (left == 0) {
				t.Fatalf("Number(%d, %d) is %q, %v, not %q", v, n, got, ok, want)
			}
			if !ok {
				continue
			}
			if back, ok := word.Value(got); back != v || !ok {
				t.Fatalf("Value(%q) is %d, %v, not %d", got, back, ok, v)
			}
		}
	}
}

// P1.1.
func TestNumberOfNoSuchLength(t *testing.T) {
	for _, n := range []int{math.MinInt, math.MinInt + 1, -64, -8, -1, 9, 10, 16, 64, 256, 1 << 32, 1<<61 + 1, math.MaxInt} {
		for _, v := range []uint64{0, 1, 255, math.MaxUint64} {
			if got, ok := word.Number(v, n); got != "" || ok {
				t.Errorf("Number(%d, %d) is %q, %v", v, n, got, ok)
			}
		}
	}
}

// P1.1.
func TestValue(t *testing.T) {
	for s, want := range map[string]uint64{
		"":                                 0,
		"\x00":                             0,
		"\x07":                             7,
		"\xff":                             255,
		"\x01\x00":                         256,
		"\x01\x2c":                         300,
		"\x00\x00\x01":                     1,
		"\x80\x00\x00\x00":                 1 << 31,
		"\x00\x00\x00\x00\x00\x00\x00\x00": 0,
		"\x00\x00\x00\x00\x00\x00\x00\x09": 9,
		"\x01\x02\x03\x04\x05\x06\x07\x08": 0x0102030405060708,
		"\xff\xff\xff\xff\xff\xff\xff\xff": math.MaxUint64,
		"\u20ac":                           0xe282ac,
	} {
		if got, ok := word.Value(s); got != want || !ok {
			t.Errorf("Value(%q) is %d, %v, not %d", s, got, ok, want)
		}
	}
	for _, s := range []string{
		strings.Repeat("\x00", 9),
		"\x00\x01\x02\x03\x04\x05\x06\x07\x08",
		strings.Repeat("\xff", 9),
		strings.Repeat("a", 16),
		string(bytes.Repeat([]byte{1}, 1000)),
	} {
		if got, ok := word.Value(s); got != 0 || ok {
			t.Errorf("Value of %d bytes is %d, %v", len(s), got, ok)
		}
	}
}
