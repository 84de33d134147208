package lamport_test

import (
	"crypto/sha256"
	"encoding/binary"
	"math"
	"slices"
	"strings"
	"testing"

	"quitclaim/api"
	"quitclaim/lamport"
)

// tagged is a tagged sum, worked out from its bytes.
func tagged(name string, parts ...string) api.Id {
	b := append([]byte{byte(len(name))}, name...)
	for _, p := range parts {
		b = binary.BigEndian.AppendUint64(b, uint64(len(p)))
		b = append(b, p...)
	}
	return sha256.Sum256(b)
}

// secret is a secret, worked out so.
func secret(seed string, leaf, bit, side int) api.Id {
	return tagged("secret", seed, string(binary.BigEndian.AppendUint64(nil, uint64(leaf))), string([]byte{byte(bit >> 8), byte(bit)}), string([]byte{byte(side)}))
}

// public is a secret's public sum, worked out so.
func public(a api.Id) api.Id { return tagged("public", string(a[:])) }

// leafOf is the leaf's sum of all public sums, worked out so.
func leafOf(l []api.Id) api.Id {
	var b []byte
	for _, a := range l {
		b = append(b, a[:]...)
	}
	return tagged("leaf", string(b))
}

// publics are the public sums of a leaf, worked out so.
func publics(seed string, leaf, bits int) []api.Id {
	var l []api.Id
	for bit := range bits {
		l = append(l, public(secret(seed, leaf, bit, 0)), public(secret(seed, leaf, bit, 1)))
	}
	return l
}

// bitOf is a bit of a sum.
func bitOf(a api.Id, i int) int { return int(a[i/8]>>(7-i%8)) & 1 }

// sums are some to be signed, each bit of which is 0 in one and 1 in another one.
func sums() []api.Id {
	l := []api.Id{{}, {0xa5}, {31: 1}, {0: 0x80}, {1: 0x40, 30: 2}}
	ones, mixed := api.Id{}, api.Id{}
	for i := range ones {
		ones[i], mixed[i] = 255, byte(37*i+11)
	}
	return append(l, ones, mixed)
}

// some are seeds, short and long.
func some() []string {
	return []string{"", "s", "\x00", "a seed", strings.Repeat("long", 100)}
}

// P6.1.
func TestRight(t *testing.T) {
	for bits := -600; bits < 1200; bits++ {
		if got := lamport.Right(bits); got != (bits >= 8 && bits <= 256 && bits%8 == 0) {
			t.Errorf("%d is %v", bits, got)
		}
	}
	for bits, want := range map[int]bool{8: true, 256: true, 12: false, 264: false, 0: false, -8: false, math.MinInt: false, math.MaxInt: false, math.MaxInt - 7: false, 1<<32 + 8: false} {
		if lamport.Right(bits) != want {
			t.Errorf("%d isn't %v", bits, want)
		}
	}
}

// P6.1.
func TestSecret(t *testing.T) {
	seen := map[api.Id]bool{}
	n := 0
	for _, seed := range some() {
		for _, leaf := range []int{0, 1, 255, 256, 1023, 1 << 40, math.MaxInt} {
			for _, bit := range []int{0, 1, 7, 255, 256, 65534, 65535} {
				for side := range 2 {
					a := lamport.Secret(seed, leaf, bit, side)
					if a != secret(seed, leaf, bit, side) {
						t.Errorf("secret of %.10q, %d, %d, %d", seed, leaf, bit, side)
					}
					seen[a] = true
					n++
				}
			}
		}
	}
	if len(seen) != n {
		t.Error("two secrets are one")
	}
}

// P6.1. Numbers beyond their range count as the nearest ones within it.
func TestSecretBeyond(t *testing.T) {
	for _, below := range []int{-1, -2, -256, -65536, math.MinInt} {
		if lamport.Secret("s", below, 5, 1) != secret("s", 0, 5, 1) || lamport.Secret("s", 5, below, 1) != secret("s", 5, 0, 1) || lamport.Secret("s", 5, 6, below) != secret("s", 5, 6, 0) {
			t.Errorf("%d isn't as 0", below)
		}
		if lamport.Secret("s", below, below, below) != secret("s", 0, 0, 0) {
			t.Errorf("all of %d", below)
		}
	}
	for _, above := range []int{65536, 65537, 1 << 17, 1 << 32, math.MaxInt} {
		if lamport.Secret("s", 5, above, 1) != secret("s", 5, 65535, 1) {
			t.Errorf("bit %d isn't as 65535", above)
		}
	}
	for _, above := range []int{2, 3, 255, 256, 257, 1 << 32, math.MaxInt} {
		if lamport.Secret("s", 5, 6, above) != secret("s", 5, 6, 1) {
			t.Errorf("side %d isn't as 1", above)
		}
	}
}

// P6.1.
func TestPublic(t *testing.T) {
	for _, a := range append(sums(), secret("s", 1, 2, 0)) {
		if lamport.Public(a) != public(a) {
			t.Errorf("%x", a)
		}
	}
}

// P6.1.
func TestLeaf(t *testing.T) {
	for _, seed := range some() {
		for _, leaf := range []int{0, 1, 1023, math.MaxInt} {
			for _, bits := range []int{8, 16, 128, 248, 256} {
				if a, e := lamport.Leaf(seed, leaf, bits); a != leafOf(publics(seed, leaf, bits)) || e != api.OK {
					t.Errorf("leaf %d of %.10q, %d bits: %x, %d", leaf, seed, bits, a, e)
				}
			}
		}
	}
}

// wrong are leaves and bits of which there are none.
func wrong() [][2]int {
	l := [][2]int{{-1, 8}, {-1, 256}, {math.MinInt, 8}, {-1, 0}, {-1, 12}}
	for _, bits := range []int{math.MinInt, -8, -1, 0, 1, 7, 9, 12, 255, 257, 260, 264, 512, math.MaxInt, math.MaxInt - 7} {
		l = append(l, [2]int{0, bits}, [2]int{3, bits})
	}
	return l
}

// P6.1.
func TestWrongLeaves(t *testing.T) {
	for _, w := range wrong() {
		if a, e := lamport.Leaf("s", w[0], w[1]); a != (api.Id{}) || e != api.ErrArg {
			t.Errorf("leaf %d, %d bits: %x, %d", w[0], w[1], a, e)
		}
		if shown, hidden, e := lamport.Sign("s", w[0], w[1], api.Id{1}); len(shown) > 0 || len(hidden) > 0 || e != api.ErrArg {
			t.Errorf("leaf %d, %d bits: %x, %x, %d", w[0], w[1], shown, hidden, e)
		}
	}
}

// P6.1, P6.2.
func TestSignAndRecover(t *testing.T) {
	for bits := 8; bits <= 256; bits += 8 {
		for _, sum := range sums() {
			signs(t, "s", 7, bits, sum)
		}
	}
	for _, seed := range some() {
		for _, leaf := range []int{0, 1, 1023, math.MaxInt} {
			signs(t, seed, leaf, 16, api.Id{0xa5, 0x3c})
		}
	}
}

// signs looks at one signature, and at what is recovered of it.
func signs(t *testing.T, seed string, leaf, bits int, sum api.Id) {
	t.Helper()
	shown, hidden, e := lamport.Sign(seed, leaf, bits, sum)
	if len(shown) != bits || len(hidden) != bits || e != api.OK {
		t.Fatalf("%d, %d of %d, %d", len(shown), len(hidden), bits, e)
	}
	all := publics(seed, leaf, bits)
	for bit := range bits {
		side := bitOf(sum, bit)
		if public(shown[bit]) != all[2*bit+side] || shown[bit] != secret(seed, leaf, bit, side) || hidden[bit] != all[2*bit+1-side] {
			t.Fatalf("bit %d of %x", bit, sum)
		}
	}
	if l, e := lamport.Publics(sum, shown, hidden); !slices.Equal(l, all) || e != api.OK {
		t.Fatalf("public sums of %x, %d", sum, e)
	}
	want, _ := lamport.Leaf(seed, leaf, bits)
	if a, e := lamport.Recover(sum, shown, hidden); a != want || e != api.OK {
		t.Fatalf("leaf of %x, %d", sum, e)
	}
}

// P6.1. Any rows of right bits have a leaf's sum, that of the sides as the sum's bits say.
func TestRecoverAnything(t *testing.T) {
	for bits := 8; bits <= 256; bits += 8 {
		shown, hidden := make([]api.Id, bits), make([]api.Id, bits)
		for i := range bits {
			shown[i], hidden[i] = api.Id{byte(i), 1}, api.Id{byte(i), 31: 2}
		}
		for _, sum := range sums() {
			var all []api.Id
			for i := range bits {
				sides := []api.Id{public(shown[i]), hidden[i]}
				if bitOf(sum, i) == 1 {
					slices.Reverse(sides)
				}
				all = append(all, sides...)
			}
			if l, e := lamport.Publics(sum, shown, hidden); !slices.Equal(l, all) || e != api.OK {
				t.Errorf("%d bits of %x: %d", bits, sum, e)
			}
			if a, e := lamport.Recover(sum, shown, hidden); a != leafOf(all) || e != api.OK {
				t.Errorf("%d bits of %x: %x, %d", bits, sum, a, e)
			}
		}
	}
}

// P6.1, P6.2. Each signed bit counts, and none behind them; so does each id of the rows.
func TestRecoverChanged(t *testing.T) {
	const bits = 24
	sum := sums()[6]
	shown, hidden, _ := lamport.Sign("seed", 3, bits, sum)
	leaf, _ := lamport.Leaf("seed", 3, bits)
	for i := range 256 {
		other := sum
		other[i/8] ^= 128 >> (i % 8)
		if a, e := lamport.Recover(other, shown, hidden); e != api.OK || (a == leaf) != (i >= bits) {
			t.Errorf("bit %d turned: %x, %d", i, a, e)
		}
	}
	for i := range bits {
		for _, l := range [][]api.Id{shown, hidden} {
			l[i][9] ^= 1
			if a, e := lamport.Recover(sum, shown, hidden); a == leaf || e != api.OK {
				t.Errorf("id %d changed: %d", i, e)
			}
			l[i][9] ^= 1
		}
		shown[i], hidden[i] = hidden[i], shown[i]
		if a, e := lamport.Recover(sum, shown, hidden); a == leaf || e != api.OK {
			t.Errorf("bit %d turned round: %d", i, e)
		}
		shown[i], hidden[i] = hidden[i], shown[i]
	}
	if a, e := lamport.Recover(sum, shown, hidden); a != leaf || e != api.OK {
		t.Error(e)
	}
}

// P6.1.
func TestRecoverWrongRows(t *testing.T) {
	row := make([]api.Id, 600)
	lengths := []int{0, 1, 7, 8, 9, 15, 16, 17, 24, 255, 256, 257, 264, 512}
	for _, n := range lengths {
		for _, m := range lengths {
			l, e := lamport.Publics(api.Id{1}, row[:n], row[:m])
			a, f := lamport.Recover(api.Id{1}, row[:n], row[:m])
			if n == m && n >= 8 && n <= 256 && n%8 == 0 {
				if len(l) != 2*n || e != api.OK || a == (api.Id{}) || f != api.OK {
					t.Errorf("%d: %d, %d, %d", n, len(l), e, f)
				}
			} else if len(l) > 0 || e != api.ErrForm || a != (api.Id{}) || f != api.ErrForm {
				t.Errorf("%d and %d: %x, %d, %x, %d", n, m, l, e, a, f)
			}
		}
	}
	if _, e := lamport.Publics(api.Id{1}, nil, nil); e != api.ErrForm {
		t.Error(e)
	}
}

// P6.1. What is handed in is neither changed nor kept, and what is told shares nothing.
func TestMemory(t *testing.T) {
	sum := api.Id{0x5a}
	shown, hidden, _ := lamport.Sign("s", 1, 8, sum)
	other, beside, _ := lamport.Sign("s", 1, 8, sum)
	if want, rest := slices.Clone(shown), slices.Clone(hidden); !slices.Equal(other, want) || !slices.Equal(beside, rest) {
		t.Error("two answers to one call")
	}
	for _, l := range [][]api.Id{other[:cap(other)], beside[8:cap(beside)]} {
		for i := range l {
			l[i] = api.Id{9}
		}
	}
	if a, _ := lamport.Recover(sum, shown, beside); a != leafOf(publics("s", 1, 8)) {
		t.Error("two answers share something")
	}
	roomy, wide := append(shown, api.Id{1}, api.Id{2}), append(hidden, api.Id{3}, api.Id{4})
	first, second := slices.Clone(roomy), slices.Clone(wide)
	l, _ := lamport.Publics(sum, roomy[:8], wide[:8])
	lamport.Recover(sum, roomy[:8], wide[:8])
	if !slices.Equal(roomy, first) || !slices.Equal(wide, second) {
		t.Error("the rows were changed")
	}
	for i := range l[:cap(l)] {
		l[:cap(l)][i] = api.Id{9}
	}
	if !slices.Equal(roomy, first) || !slices.Equal(wide, second) {
		t.Error("the rows are shared")
	}
}
