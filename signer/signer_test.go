package signer_test

import (
	"crypto/sha256"
	"encoding/binary"
	"math"
	"reflect"
	"slices"
	"strings"
	"testing"

	"quitclaim/api"
	"quitclaim/keytree"
	"quitclaim/lamport"
	"quitclaim/pack"
	"quitclaim/signer"
)

// tagged is a tagged sum, worked out from its bytes.
func tagged(name string, parts ...string) api.Id {
	b := append([]byte{byte(len(name))}, name...)
	for _, p := range parts {
		b = binary.BigEndian.AppendUint64(b, uint64(len(p)))
		b = append(b, p...)
	}
	return sha256.Sum256(b)
}

// joined are the bytes of ids.
func joined(l ...api.Id) string {
	var b []byte
	for _, a := range l {
		b = append(b, a[:]...)
	}
	return string(b)
}

// secret is a secret, worked out so.
func secret(seed string, leaf, bit, side int) api.Id {
	return tagged("secret", seed, string(binary.BigEndian.AppendUint64(nil, uint64(leaf))), string([]byte{byte(bit >> 8), byte(bit)}), string([]byte{byte(side)}))
}

// public is a secret's public sum, worked out so.
func public(a api.Id) api.Id { return tagged("public", joined(a)) }

// node is what stands so high, at that place of its row, in a seed's tree, worked out so.
func node(seed string, bits, height, place int) api.Id {
	if height > 0 {
		return tagged("node", joined(node(seed, bits, height-1, 2*place)), joined(node(seed, bits, height-1, 2*place+1)))
	}
	var l []api.Id
	for bit := range bits {
		l = append(l, public(secret(seed, place, bit, 0)), public(secret(seed, place, bit, 1)))
	}
	return tagged("leaf", joined(l...))
}

// keyOf is a root's key, worked out so.
func keyOf(p api.Params, root api.Id) api.Id {
	return tagged("key", string([]byte{byte(p.Bits >> 8), byte(p.Bits)}), string([]byte{byte(p.Height)}), joined(root))
}

// bitOf is a bit of a sum.
func bitOf(a api.Id, i int) int { return int(a[i/8]>>(7-i%8)) & 1 }

// signed is what a leaf signs with, worked out so.
func signed(p api.Params, seed string, leaf int, sum api.Id) api.Signature {
	x := api.Signature{Leaf: leaf}
	for bit := range p.Bits {
		side := bitOf(sum, bit)
		x.Shown = append(x.Shown, secret(seed, leaf, bit, side))
		x.Hidden = append(x.Hidden, public(secret(seed, leaf, bit, 1-side)))
	}
	for i := range p.Height {
		x.Way = append(x.Way, node(seed, p.Bits, i, leaf>>i^1))
	}
	return x
}

// alike tells whether two signatures are, nil and empty rows being one.
func alike(a, b api.Signature) bool {
	return a.Leaf == b.Leaf && slices.Equal(a.Shown, b.Shown) && slices.Equal(a.Hidden, b.Hidden) && slices.Equal(a.Way, b.Way)
}

// none tells whether a signature is zero.
func none(x api.Signature) bool { return alike(x, api.Signature{}) }

// copied is a signature of its own.
func copied(x api.Signature) api.Signature {
	return api.Signature{Leaf: x.Leaf, Shown: slices.Clone(x.Shown), Hidden: slices.Clone(x.Hidden), Way: slices.Clone(x.Way)}
}

// made is a signer.
func made(t *testing.T, p api.Params, seed string, next int) *signer.Signer {
	t.Helper()
	s, e := signer.New(p, seed, next)
	if s == nil || e != api.OK {
		t.Fatalf("%v, %.10q, %d: %d", p, seed, next, e)
	}
	return s
}

// signs is a signature of a signer that has a leaf left.
func signs(t *testing.T, s *signer.Signer, sum api.Id) api.Signature {
	t.Helper()
	x, e := s.Sign(sum)
	if e != api.OK {
		t.Fatal(e)
	}
	return x
}

// wrong are params that aren't right, by their bits, by their height or by both.
func wrong() []api.Params {
	return []api.Params{{}, {Height: 3}, {Bits: 7}, {Bits: 12, Height: 1}, {Bits: 264, Height: 1}, {Bits: -8, Height: 1}, {Bits: math.MinInt}, {Bits: math.MaxInt - 7},
		{Bits: 8, Height: -1}, {Bits: 8, Height: 11}, {Bits: 8, Height: 64}, {Bits: 256, Height: math.MinInt}, {Bits: 256, Height: math.MaxInt}, {Bits: 9, Height: 11}, {Bits: -1, Height: -1}}
}

// small are params whose trees are soon made.
func small() []api.Params {
	return []api.Params{{Bits: 256, Height: 1}, {Bits: 128}, {Bits: 16, Height: 4}, {Bits: 24, Height: 3}, {Bits: 8}, {Bits: 8, Height: 1}, {Bits: 8, Height: 2}, {Bits: 8, Height: 3}}
}

// sums are some to be signed.
func sums() []api.Id {
	ones, mixed := api.Id{}, api.Id{}
	for i := range ones {
		ones[i], mixed[i] = 255, byte(37*i+11)
	}
	return []api.Id{{}, {0xa5}, {31: 1}, ones, mixed}
}

// P8.1.
func TestNew(t *testing.T) {
	for _, p := range small() {
		for _, seed := range []string{"", "s", "\x00", strings.Repeat("long", 100)} {
			n := 1 << p.Height
			key := keyOf(p, node(seed, p.Bits, p.Height, 0))
			for _, next := range []int{0, n / 2, n - 1, n} {
				s := made(t, p, seed, next)
				if s.Key() != key || s.Next() != next || s.Left() != n-next {
					t.Errorf("%v, %.10q, %d: %x, %d, %d", p, seed, next, s.Key(), s.Next(), s.Left())
				}
			}
		}
	}
	high := api.Params{Bits: 8, Height: 10}
	key, _ := keytree.Of(high, "s")
	if s := made(t, high, "s", 1024); s.Key() != key || s.Left() != 0 {
		t.Errorf("%x, %d", s.Key(), s.Left())
	}
}

// P8.1. That the params are wrong is told ahead of the leaf.
func TestNewWrong(t *testing.T) {
	for _, p := range small() {
		n := 1 << p.Height
		for _, next := range []int{-1, -n, math.MinInt, n + 1, 2*n + 1, 2048, 1 << 32, math.MaxInt} {
			if s, e := signer.New(p, "s", next); s != nil || e != api.ErrRange {
				t.Errorf("%v, %d: %v, %d", p, next, s, e)
			}
		}
	}
	for _, p := range wrong() {
		for _, next := range []int{0, 1, -1, 2048, math.MinInt, math.MaxInt} {
			if s, e := signer.New(p, "s", next); s != nil || e != api.ErrArg {
				t.Errorf("%v, %d: %v, %d", p, next, s, e)
			}
		}
	}
}

// P8.1, P8.2. All leaves sign, from the first one that isn't used on, and no more.
func TestSign(t *testing.T) {
	for _, p := range small() {
		n := 1 << p.Height
		for _, first := range []int{0, n / 2, n} {
			s := made(t, p, "seed", first)
			key := s.Key()
			for leaf := first; leaf < n; leaf++ {
				sum := sums()[leaf%len(sums())]
				x := signs(t, s, sum)
				if !alike(x, signed(p, "seed", leaf, sum)) {
					t.Fatalf("%v, leaf %d", p, leaf)
				}
				if s.Next() != leaf+1 || s.Left() != n-leaf-1 || s.Key() != key {
					t.Errorf("%v, leaf %d: then %d, %d", p, leaf, s.Next(), s.Left())
				}
				if e := signer.Verify(p, key, sum, x); e != api.OK {
					t.Errorf("%v, leaf %d: %d", p, leaf, e)
				}
			}
			spent(t, s, n)
		}
	}
}

// spent looks at a signer that has no leaf left.
func spent(t *testing.T, s *signer.Signer, n int) {
	t.Helper()
	key := s.Key()
	for range 3 {
		if x, e := s.Sign(api.Id{1}); !none(x) || e != api.ErrSpent {
			t.Errorf("%v, %d", x, e)
		}
		if s.Next() != n || s.Left() != 0 || s.Key() != key || !s.Skip(n) || s.Skip(n+1) || s.Skip(n-1) {
			t.Errorf("of %d: %d, %d", n, s.Next(), s.Left())
		}
	}
}

// P8.2. The highest tree signs with each leaf once.
func TestSignAll(t *testing.T) {
	p := api.Params{Bits: 8, Height: 10}
	s := made(t, p, "s", 0)
	seen := map[api.Id]bool{}
	for leaf := range 1024 {
		sum := api.Id{byte(5 * leaf), byte(leaf >> 8)}
		x := signs(t, s, sum)
		if x.Leaf != leaf || signer.Verify(p, s.Key(), sum, x) != api.OK {
			t.Fatalf("leaf %d", leaf)
		}
		for _, a := range x.Shown {
			seen[a] = true
		}
	}
	if len(seen) != 8*1024 {
		t.Errorf("%d secrets were shown", len(seen))
	}
	spent(t, s, 1024)
}

// P8.1. What is refused changes nothing.
func TestSkip(t *testing.T) {
	p := api.Params{Bits: 8, Height: 3}
	s := made(t, p, "s", 2)
	for _, to := range []int{1, 0, -1, math.MinInt, 9, 10, 1024, math.MaxInt} {
		if s.Skip(to) || s.Next() != 2 || s.Left() != 6 {
			t.Errorf("to %d: %d, %d", to, s.Next(), s.Left())
		}
	}
	if !s.Skip(2) || s.Next() != 2 || s.Left() != 6 {
		t.Error("to where it is")
	}
	if x := signs(t, s, api.Id{7}); !alike(x, signed(p, "s", 2, api.Id{7})) {
		t.Error("leaf 2")
	}
	if s.Skip(2) || !s.Skip(5) || s.Skip(4) || s.Next() != 5 || s.Left() != 3 {
		t.Errorf("to 5: %d, %d", s.Next(), s.Left())
	}
	if x := signs(t, s, api.Id{7}); !alike(x, signed(p, "s", 5, api.Id{7})) || signer.Verify(p, s.Key(), api.Id{7}, x) != api.OK {
		t.Error("leaf 5")
	}
	if !s.Skip(8) {
		t.Error("to the end")
	}
	spent(t, s, 8)
}

// P8.1, P8.2. Calls in many orders come to what they say one by one; each leaf signs once at most.
func TestAnyCalls(t *testing.T) {
	dice := uint32(1)
	roll := func(n int) int {
		dice = dice*1664525 + 1013904223
		return int(dice>>16) % n
	}
	for range 60 {
		p := api.Params{Bits: 8, Height: roll(5)}
		n := 1 << p.Height
		next := roll(n + 1)
		s := made(t, p, "seed", next)
		key := keyOf(p, node("seed", 8, p.Height, 0))
		for range 12 {
			if roll(2) == 0 {
				to := roll(n+4) - 2
				ok := to >= next && to <= n
				if s.Skip(to) != ok {
					t.Fatalf("of %d, at %d, to %d: %v", n, next, to, !ok)
				}
				if ok {
					next = to
				}
			} else {
				sum := api.Id{byte(roll(256))}
				x, e := s.Sign(sum)
				if next == n {
					if !none(x) || e != api.ErrSpent {
						t.Fatalf("of %d: %v, %d", n, x, e)
					}
				} else if next++; e != api.OK || x.Leaf != next-1 || signer.Verify(p, key, sum, x) != api.OK {
					t.Fatalf("of %d, leaf %d: %d", n, next-1, e)
				}
			}
			if s.Next() != next || s.Left() != n-next || s.Key() != key {
				t.Fatalf("of %d: %d, %d, not %d", n, s.Next(), s.Left(), next)
			}
		}
	}
}

// P8.1. Signers of one seed don't know of one another.
func TestSigners(t *testing.T) {
	p := api.Params{Bits: 8, Height: 2}
	a, b, c := made(t, p, "s", 0), made(t, p, "s", 1), made(t, p, "t", 0)
	signs(t, a, api.Id{1})
	signs(t, a, api.Id{2})
	b.Skip(4)
	if a.Next() != 2 || b.Next() != 4 || c.Next() != 0 || a.Key() != b.Key() || a.Key() == c.Key() {
		t.Errorf("%d, %d, %d", a.Next(), b.Next(), c.Next())
	}
	if x := signs(t, c, api.Id{3}); !alike(x, signed(p, "t", 0, api.Id{3})) || signer.Verify(p, a.Key(), api.Id{3}, x) != api.ErrSign {
		t.Error("of t")
	}
	if x := signs(t, a, api.Id{3}); !alike(x, signed(p, "s", 2, api.Id{3})) || signer.Verify(p, c.Key(), api.Id{3}, x) != api.ErrSign {
		t.Error("of s")
	}
}

// rowOf is a signature of rows so long.
func rowOf(leaf, shown, hidden, way int) api.Signature {
	l := make([]api.Id, shown+hidden+way)
	for i := range l {
		l[i] = api.Id{byte(i >> 8), byte(i), 1}
	}
	return api.Signature{Leaf: leaf, Shown: l[:shown:shown], Hidden: l[shown : shown+hidden : shown+hidden], Way: l[shown+hidden:]}
}

// unfit looks at a signature that doesn't fit.
func unfit(t *testing.T, p api.Params, x api.Signature) {
	t.Helper()
	if signer.Fits(p, x) {
		t.Errorf("%v: leaf %d, %d, %d, %d fit", p, x.Leaf, len(x.Shown), len(x.Hidden), len(x.Way))
	}
	if a, e := signer.Root(p, api.Id{1}, x); a != (api.Id{}) || e != api.ErrForm {
		t.Errorf("%v: %x, %d", p, a, e)
	}
	for _, key := range []api.Id{{}, {1}, keyOf(p, api.Id{})} {
		if e := signer.Verify(p, key, api.Id{1}, x); e != api.ErrForm {
			t.Errorf("%v: %d", p, e)
		}
	}
}

// P8.1.
func TestFits(t *testing.T) {
	for _, bits := range []int{8, 16, 136, 256} {
		for height := range 11 {
			p := api.Params{Bits: bits, Height: height}
			n := 1 << height
			for _, leaf := range []int{0, n / 2, n - 1} {
				if !signer.Fits(p, rowOf(leaf, bits, bits, height)) {
					t.Errorf("%v, leaf %d", p, leaf)
				}
			}
			for _, leaf := range []int{-1, -n, math.MinInt, n, n + 1, 2 * n, 1 << 40, math.MaxInt} {
				unfit(t, p, rowOf(leaf, bits, bits, height))
			}
			for _, by := range []int{-8, -1, 1, 8} {
				unfit(t, p, rowOf(0, bits+by, bits, height))
				unfit(t, p, rowOf(0, bits, bits+by, height))
				unfit(t, p, rowOf(0, bits+by, bits+by, height))
			}
			for way := range 20 {
				if way != height {
					unfit(t, p, rowOf(0, bits, bits, way))
				}
			}
			unfit(t, p, api.Signature{})
		}
	}
	for _, p := range wrong() {
		for _, n := range []int{0, 7, 8, 9, 12, 256, 264} {
			for _, way := range []int{0, 1, 3, 11, 64} {
				unfit(t, p, rowOf(0, n, n, way))
			}
		}
	}
}

// rootOf is what a signature leads to, worked out by the words.
func rootOf(sum api.Id, x api.Signature) api.Id {
	var l []api.Id
	for i, a := range x.Shown {
		if bitOf(sum, i) == 0 {
			l = append(l, public(a), x.Hidden[i])
		} else {
			l = append(l, x.Hidden[i], public(a))
		}
	}
	at := tagged("leaf", joined(l...))
	for i, a := range x.Way {
		if x.Leaf>>i&1 == 1 {
			at = tagged("node", joined(a), joined(at))
		} else {
			at = tagged("node", joined(at), joined(a))
		}
	}
	return at
}

// P8.1. Whatever fits leads to a root, under whose key it is verified, and under no other one.
func TestRoot(t *testing.T) {
	for height := range 11 {
		for _, bits := range []int{8, 40, 256} {
			if bits == 256 && height%5 > 0 {
				continue
			}
			p := api.Params{Bits: bits, Height: height}
			n := 1 << height
			for _, leaf := range []int{0, n / 2, n * 2 / 3, n - 1} {
				x := rowOf(leaf, bits, bits, height)
				for _, sum := range sums() {
					want := rootOf(sum, x)
					if a, e := signer.Root(p, sum, x); a != want || e != api.OK {
						t.Errorf("%v, leaf %d: %x, %d", p, leaf, a, e)
					}
					if e := signer.Verify(p, keyOf(p, want), sum, x); e != api.OK {
						t.Errorf("%v, leaf %d: %d", p, leaf, e)
					}
					others := []api.Id{{}, want, keyOf(p, api.Id{}), keyOf(api.Params{Bits: bits, Height: height + 1}, want), keyOf(api.Params{Bits: bits + 8, Height: height}, want)}
					for _, key := range others {
						if e := signer.Verify(p, key, sum, x); e != api.ErrSign {
							t.Errorf("%v, leaf %d, another key: %d", p, leaf, e)
						}
					}
				}
			}
		}
	}
}

// P8.2. Whatever is changed of what was signed isn't verified any more, but the bits that aren't signed.
func TestVerifyChanged(t *testing.T) {
	p := api.Params{Bits: 16, Height: 3}
	s := made(t, p, "s", 5)
	sum := sums()[4]
	x := signs(t, s, sum)
	root, _ := signer.Root(p, sum, x)
	for i := range 256 {
		other := sum
		other[i/8] ^= 128 >> (i % 8)
		want := api.ErrSign
		if i >= 16 {
			want = api.OK
		}
		if e := signer.Verify(p, s.Key(), other, x); e != want {
			t.Errorf("bit %d: %d", i, e)
		}
	}
	for which := range 3 {
		y := copied(x)
		l := [][]api.Id{y.Shown, y.Hidden, y.Way}[which]
		for i := range l {
			l[i][31] ^= 1
			if e := signer.Verify(p, s.Key(), sum, y); e != api.ErrSign {
				t.Errorf("row %d, sum %d: %d", which, i, e)
			}
			if a, e := signer.Root(p, sum, y); a == root || e != api.OK {
				t.Errorf("row %d, sum %d: %x, %d", which, i, a, e)
			}
			l[i][31] ^= 1
		}
	}
	for leaf := range 8 {
		y := copied(x)
		y.Leaf = leaf
		if e := signer.Verify(p, s.Key(), sum, y); (e == api.OK) != (leaf == 5) || e != api.OK && e != api.ErrSign {
			t.Errorf("leaf %d: %d", leaf, e)
		}
	}
}

// written is a number's bytes, worked out by the words.
func written(v int) []byte { return binary.AppendUvarint(nil, uint64(v)) }

// bytesOf are a signature's bytes, worked out by the words.
func bytesOf(leaf int, x api.Signature) string {
	b := written(leaf)
	for _, l := range [][]api.Id{x.Shown, x.Hidden, x.Way} {
		b = append(b, written(len(l))...)
		b = append(b, joined(l...)...)
	}
	return string(b)
}

// put are the bytes that Put writes.
func put(x api.Signature) string {
	w := &pack.Writer{}
	signer.Put(w, x)
	return w.String()
}

// many are signatures that are put and got: also such as fit nothing.
func many() []api.Signature {
	var l []api.Signature
	for _, leaf := range []int{0, 1, 127, 128, 1023, 1 << 32, 1<<62 - 1, 1 << 62} {
		l = append(l, rowOf(leaf, 8, 8, 3))
	}
	for _, n := range []int{0, 1, 9, 127, 128, 255, 256} {
		for _, way := range []int{0, 1, 9, 10} {
			l = append(l, rowOf(5, n, 256-n, way), rowOf(6, n, n, way))
		}
	}
	x := signed(api.Params{Bits: 16, Height: 2}, "s", 3, api.Id{0xa5})
	return append(l, x, api.Signature{})
}

// P8.1, P8.3.
func TestPutAndGet(t *testing.T) {
	for _, x := range many() {
		s := put(x)
		if s != bytesOf(x.Leaf, x) {
			t.Errorf("leaf %d, %d, %d, %d: other bytes", x.Leaf, len(x.Shown), len(x.Hidden), len(x.Way))
		}
		r := pack.New(s)
		if y := signer.Get(r); !alike(x, y) || r.End() != api.OK || r.Place() != len(s) {
			t.Errorf("leaf %d, %d, %d, %d: %d", x.Leaf, len(x.Shown), len(x.Hidden), len(x.Way), r.End())
		}
	}
}

// P8.1, P8.3. One stands behind another one, and among other things.
func TestPutAmong(t *testing.T) {
	w := &pack.Writer{}
	w.Text("ahead")
	for _, x := range many() {
		signer.Put(w, x)
		w.Byte(7)
	}
	r := pack.New(w.String())
	if s := r.Text(5); s != "ahead" {
		t.Error(s)
	}
	for i, x := range many() {
		if y := signer.Get(r); !alike(x, y) || r.Byte() != 7 {
			t.Errorf("%d: %d", i, r.Err())
		}
	}
	if r.End() != api.OK {
		t.Error(r.End())
	}
}

// P8.1. A leaf of which there is no number is written as 0; rows are written as long as they are.
func TestPutBeyond(t *testing.T) {
	for _, leaf := range []int{-1, -1024, math.MinInt, 1<<62 + 1, math.MaxInt} {
		x := rowOf(leaf, 8, 8, 2)
		if put(x) != bytesOf(0, x) {
			t.Errorf("leaf %d", leaf)
		}
		x.Leaf = 0
		if y := signer.Get(pack.New(put(rowOf(leaf, 8, 8, 2)))); !alike(x, y) {
			t.Errorf("leaf %d is got as %d", leaf, y.Leaf)
		}
	}
	for _, x := range []api.Signature{rowOf(1, 257, 3, 2), rowOf(1, 3, 300, 2), rowOf(1, 0, 0, 11)} {
		if put(x) != bytesOf(1, x) {
			t.Errorf("%d, %d, %d", len(x.Shown), len(x.Hidden), len(x.Way))
		}
	}
}

// refused looks at bytes that are no signature: what is wrong is kept, at the place where the number or the row begins that has it.
func refused(t *testing.T, s string, want api.Errno, place int) {
	t.Helper()
	r := pack.New("ab" + s)
	r.Byte()
	r.Byte()
	if x := signer.Get(r); !none(x) || r.Err() != want || r.End() != want || r.Place() != place+2 {
		t.Errorf("%d bytes: %d, %d, at %d", len(s), x.Leaf, r.Err(), r.Place())
	}
	if x := signer.Get(r); !none(x) || r.Err() != want || r.Place() != place+2 {
		t.Errorf("%d bytes, once more: %d, %d, at %d", len(s), x.Leaf, r.Err(), r.Place())
	}
}

// P8.1.
func TestGetShort(t *testing.T) {
	x := rowOf(300, 9, 8, 3)
	s := put(x)
	begins := []int{0, 2, 2 + 1 + 9*32, 2 + 1 + 9*32 + 1 + 8*32}
	for cut := range len(s) {
		place := 0
		for i, at := range begins {
			if i == 3 || cut < begins[i+1] {
				place = at
				break
			}
		}
		refused(t, s[:cut], api.ErrShort, place)
	}
	r := pack.New(s + "\x00")
	if y := signer.Get(r); !alike(x, y) || r.Err() != api.OK || r.End() != api.ErrForm {
		t.Errorf("a byte behind it: %d, %d", r.Err(), r.End())
	}
}

// P8.1. What is too long is told as soon as its count is read.
func TestGetWrong(t *testing.T) {
	const sums = 256 * 32
	refused(t, put(rowOf(1, 257, 8, 2)), api.ErrLong, 1)
	refused(t, put(rowOf(1, 8, 257, 2)), api.ErrLong, 1+1+8*32)
	refused(t, put(rowOf(1, 256, 256, 11)), api.ErrLong, 1+2+sums+2+sums)
	refused(t, "\x01\x81\x02", api.ErrLong, 1)
	refused(t, "\x01\x00\x81\x02", api.ErrLong, 2)
	refused(t, "\x01\x00\x00\x0b", api.ErrLong, 3)
	refused(t, "\x01\x80\x02", api.ErrShort, 1)
	refused(t, "\x01\x00\x80\x02", api.ErrShort, 2)
	refused(t, "\x01\x00\x00\x0a", api.ErrShort, 3)
	refused(t, "\x80\x00\x00\x00\x00", api.ErrForm, 0)
	refused(t, "\xff\xff\xff\xff\xff\xff\xff\xff\x40\x00\x00\x00", api.ErrForm, 0)
	refused(t, "\x00\x80\x00\x00\x00", api.ErrForm, 1)
	refused(t, "\x00\x00\x80\x00\x00", api.ErrForm, 2)
	refused(t, "\x00\x00\x00\x80\x00", api.ErrForm, 3)
}

// P8.1. Where something was wrong ahead of it, it stays so.
func TestGetBehindWrong(t *testing.T) {
	r := pack.New(put(rowOf(1, 8, 8, 2)))
	r.Fail(api.ErrSum)
	if x := signer.Get(r); !none(x) || r.Err() != api.ErrSum || r.Place() != 0 {
		t.Errorf("%d, %d, at %d", x.Leaf, r.Err(), r.Place())
	}
}

// spoil writes over all rows of a signature, their spare room too.
func spoil(x api.Signature) {
	for _, l := range [][]api.Id{x.Shown, x.Hidden, x.Way} {
		l = l[:cap(l)]
		for i := range l {
			l[i] = api.Id{9, 9}
		}
	}
}

// P8.1. What a signer tells is new, and of what it tells nothing is kept.
func TestSignMemory(t *testing.T) {
	p := api.Params{Bits: 8, Height: 3}
	s := made(t, p, "s", 0)
	for leaf := range 8 {
		x := signs(t, s, api.Id{0x3c})
		y := copied(x)
		for i, l := range [][]api.Id{x.Shown, x.Hidden, x.Way} {
			spoil(api.Signature{Shown: l})
			switch i {
			case 0:
				y.Shown = x.Shown
			case 1:
				y.Hidden = x.Hidden
			case 2:
				y.Way = x.Way
			}
			if !alike(x, y) {
				t.Errorf("leaf %d: row %d shares with another one", leaf, i)
			}
		}
		if !s.Skip(leaf + 1) {
			t.Error("skip")
		}
	}
	again := made(t, p, "s", 3)
	spoil(signs(t, again, api.Id{1}))
	if x := signs(t, again, api.Id{2}); !alike(x, signed(p, "s", 4, api.Id{2})) {
		t.Error("leaf 4 shares with leaf 3")
	}
}

// P8.1. What is handed in is neither changed nor kept.
func TestArgumentMemory(t *testing.T) {
	p := api.Params{Bits: 8, Height: 2}
	roomy := func(n int) []api.Id { return rowOf(0, n+5, 0, 0).Shown }
	shown, hidden, way := roomy(8), roomy(8), roomy(2)
	x := api.Signature{Leaf: 1, Shown: shown[:8], Hidden: hidden[:8], Way: way[:2]}
	signer.Fits(p, x)
	root, _ := signer.Root(p, api.Id{1}, x)
	signer.Verify(p, keyOf(p, root), api.Id{1}, x)
	signer.Verify(p, api.Id{}, api.Id{1}, x)
	w := &pack.Writer{}
	signer.Put(w, x)
	if !slices.Equal(shown, roomy(8)) || !slices.Equal(hidden, roomy(8)) || !slices.Equal(way, roomy(2)) {
		t.Error("the signature was changed")
	}
	want := bytesOf(1, x)
	spoil(x)
	if w.String() != want {
		t.Error("the signature was kept")
	}
	a, b := signer.Get(pack.New(want)), signer.Get(pack.New(want))
	spoil(a)
	if !reflect.DeepEqual(b, signer.Get(pack.New(want))) {
		t.Error("two answers share something")
	}
}

// P8.2. What a leaf signs is told by the leaf's sum, as layer 6 recovers it.
func TestRecovered(t *testing.T) {
	p := api.Params{Bits: 16}
	s := made(t, p, "s", 0)
	x := signs(t, s, api.Id{5})
	leaf, _ := lamport.Leaf("s", 0, 16)
	if root, e := signer.Root(p, api.Id{5}, x); root != leaf || e != api.OK {
		t.Errorf("%x, %d", root, e)
	}
}
