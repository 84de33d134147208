package sha_test

import (
	"crypto/sha256"
	"encoding/hex"
	"strings"
	"testing"

	"quitclaim/api"
	"quitclaim/sha"
)

// text is n bytes that take all values and don't come again soon.
func text(n int) string {
	b := make([]byte, n)
	v := uint32(n) + 1
	for i := range b {
		v = v*1664525 + 1013904223
		b[i] = byte(v >> 24)
	}
	return string(b)
}

// want is a text's sum by another hand.
func want(s string) api.Id { return api.Id(sha256.Sum256([]byte(s))) }

func digits(a api.Id) string { return hex.EncodeToString(a[:]) }

// P2.1.
func TestKnown(t *testing.T) {
	for _, c := range []struct{ s, sum string }{
		{"", "e3b0c44298fc1c149afbf4c8996fb92427ae41e4649b934ca495991b7852b855"},
		{"abc", "ba7816bf8f01cfea414140de5dae2223b00361a396177a9cb410ff61f20015ad"},
		{"abcdbcdecdefdefgefghfghighijhijkijkljklmklmnlmnomnopnopq", "248d6a61d20638b8e5c026930c3e6039a33ce45964ff2167f6ecedd419db06c1"},
		{"abcdefghbcdefghicdefghijdefghijkefghijklfghijklmghijklmnhijklmnoijklmnopjklmnopqklmnopqrlmnopqrsmnopqrstnopqrstu", "cf5b16a778af8380036ce59e7b0492370b249b11e8f07a51afac45037afee9d1"},
		{strings.Repeat("a", 1000000), "cdc76e5c9914fb9281a1c7e284d73e67f1809a48a497200e046d39ccc7112cd0"},
	} {
		if got := digits(sha.Sum(c.s)); got != c.sum {
			t.Errorf("%d bytes: %s, not %s", len(c.s), got, c.sum)
		}
	}
}

// P2.1. The lengths go over each place where padding needs a further block.
func TestLengths(t *testing.T) {
	for n := range 400 {
		for _, s := range []string{text(n), strings.Repeat("\x00", n), strings.Repeat("\xff", n), strings.Repeat("\x80", n)} {
			if got := sha.Sum(s); got != want(s) {
				t.Fatalf("%d bytes: %s, not %s", n, digits(got), digits(want(s)))
			}
		}
	}
	for _, n := range []int{1<<13 - 1, 1 << 13, 1<<16 + 55, 1<<16 + 56, 1<<21 + 63} {
		if s := text(n); sha.Sum(s) != want(s) {
			t.Errorf("%d bytes", n)
		}
	}
}

// P2.1. Behind New, and behind writes of nothing, there are no bytes.
func TestWithoutBytes(t *testing.T) {
	h := sha.New()
	if h == nil {
		t.Fatal("nil")
	}
	for range 3 {
		if h.Len() != 0 || h.Sum() != want("") {
			t.Fatal(h.Len(), digits(h.Sum()))
		}
		if n := h.Write(""); n != 0 {
			t.Fatal(n)
		}
	}
	h.Write("abc")
	if n := h.Write(""); n != 0 || h.Len() != 3 || h.Sum() != want("abc") {
		t.Error(n, h.Len(), digits(h.Sum()))
	}
}

// P2.1. Each byte is followed by a sum, which must not be felt.
func TestSumGoesOn(t *testing.T) {
	h := sha.New()
	s := text(300)
	for i := range len(s) {
		if n := h.Write(s[i : i+1]); n != 1 {
			t.Fatal(n)
		}
		for range 2 {
			if h.Len() != i+1 || h.Sum() != want(s[:i+1]) {
				t.Fatalf("%d bytes: Len %d, %s", i+1, h.Len(), digits(h.Sum()))
			}
		}
	}
}

// P2.2.
func TestCutInTwo(t *testing.T) {
	for n := range 200 {
		s := text(n)
		sum := want(s)
		for i := range n + 1 {
			h := sha.New()
			a, b := h.Write(s[:i]), h.Write(s[i:])
			if a != i || b != n-i || h.Len() != n || h.Sum() != sum {
				t.Fatalf("%d bytes cut at %d: %d, %d, Len %d, %s", n, i, a, b, h.Len(), digits(h.Sum()))
			}
		}
	}
}

// P2.1, P2.2. The parts begin and end about the blocks' ends.
func TestCutInMany(t *testing.T) {
	sizes := []int{0, 1, 55, 56, 57, 63, 64, 65, 119, 120, 127, 128, 129, 192, 200}
	for _, a := range sizes {
		for _, b := range sizes {
			for _, c := range sizes {
				s := text(a + b + c)
				h := sha.New()
				h.Write(s[:a])
				if h.Sum() != want(s[:a]) {
					t.Fatal(a)
				}
				h.Write(s[a : a+b])
				if h.Sum() != want(s[:a+b]) {
					t.Fatal(a, b)
				}
				h.Write(s[a+b:])
				if h.Len() != len(s) || h.Sum() != want(s) {
					t.Fatal(a, b, c)
				}
			}
		}
	}
}

// P2.2.
func TestCutInLikeParts(t *testing.T) {
	s := text(5000)
	sum := want(s)
	for _, part := range []int{1, 2, 3, 7, 31, 32, 33, 63, 64, 65, 100, 127, 128, 129, 1000} {
		h := sha.New()
		for left := s; left != ""; {
			n := min(part, len(left))
			if h.Write(left[:n]) != n {
				t.Fatal(part)
			}
			left = left[n:]
		}
		if h.Len() != len(s) || h.Sum() != sum {
			t.Errorf("parts of %d bytes", part)
		}
	}
}

// P2.1. No hash knows of another one.
func TestSideBySide(t *testing.T) {
	one, other := sha.New(), sha.New()
	s, r := text(150), text(151)
	for i := range 15 {
		one.Write(s[10*i : 10*i+10])
		other.Write(r[10*i : 10*i+10])
		if sha.Sum(s) != want(s) {
			t.Fatal(i)
		}
	}
	other.Write(r[150:])
	if one.Len() != 150 || one.Sum() != want(s) || other.Len() != 151 || other.Sum() != want(r) {
		t.Error(one.Len(), digits(one.Sum()), other.Len(), digits(other.Sum()))
	}
}

// P2.1. So many bytes that their bits aren't counted by a word any more.
func TestLengthBeyondAWord(t *testing.T) {
	part := strings.Repeat("q", 1<<20)
	h, other := sha.New(), sha256.New()
	for range 512 {
		h.Write(part)
		other.Write([]byte(part))
	}
	h.Write("x")
	other.Write([]byte("x"))
	if sum := h.Sum(); h.Len() != 1<<29+1 || sum != api.Id(other.Sum(nil)) {
		t.Error(h.Len(), digits(sum))
	}
}
