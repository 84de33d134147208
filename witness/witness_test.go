package witness_test

import (
	"encoding/binary"
	"math"
	"reflect"
	"slices"
	"strings"
	"testing"

	"quitclaim/api"
	"quitclaim/keytree"
	"quitclaim/sha"
	"quitclaim/signer"
	"quitclaim/witness"
)

// textOf is what a tagged sum is the sum of, worked out from its bytes.
func textOf(name string, parts ...string) string {
	b := append([]byte{byte(len(name))}, name...)
	for _, p := range parts {
		b = binary.BigEndian.AppendUint64(b, uint64(len(p)))
		b = append(b, p...)
	}
	return string(b)
}

// joined are the bytes of ids.
func joined(l ...api.Id) string {
	var b []byte
	for _, a := range l {
		b = append(b, a[:]...)
	}
	return string(b)
}

// secret is a secret, worked out so.
func secret(seed string, leaf, bit, side int) api.Id {
	return sha.Sum(textOf("secret", seed, string(binary.BigEndian.AppendUint64(nil, uint64(leaf))), string([]byte{byte(bit >> 8), byte(bit)}), string([]byte{byte(side)})))
}

// public is a secret's public sum, worked out so.
func public(a api.Id) api.Id { return sha.Sum(textOf("public", joined(a))) }

// bitOf is a bit of a sum.
func bitOf(a api.Id, i int) int { return int(a[i/8]>>(7-i%8)) & 1 }

// node is what stands so high, at that place of its row, in a seed's tree, worked out so.
func node(seed string, bits, height, place int) api.Id {
	if height > 0 {
		return sha.Sum(textOf("node", joined(node(seed, bits, height-1, 2*place)), joined(node(seed, bits, height-1, 2*place+1))))
	}
	var l []api.Id
	for bit := range bits {
		l = append(l, public(secret(seed, place, bit, 0)), public(secret(seed, place, bit, 1)))
	}
	return sha.Sum(textOf("leaf", joined(l...)))
}

// ownOf is what a seed's owner signs a sum with, worked out so.
func ownOf(p api.Params, seed string, leaf int, sum api.Id) api.Signature {
	x := api.Signature{Leaf: leaf}
	for bit := range p.Bits {
		side := bitOf(sum, bit)
		x.Shown = append(x.Shown, secret(seed, leaf, bit, side))
		x.Hidden = append(x.Hidden, public(secret(seed, leaf, bit, 1-side)))
	}
	for i := range p.Height {
		x.Way = append(x.Way, node(seed, p.Bits, i, leaf>>i^1))
	}
	return x
}

// textsOf are the texts of which a signature's sums are, worked out by the words: the key's, those from the root down, the leaf's.
func textsOf(p api.Params, sum api.Id, x api.Signature) []string {
	var l []api.Id
	for bit := range p.Bits {
		sides := []api.Id{public(x.Shown[bit]), x.Hidden[bit]}
		if bitOf(sum, bit) == 1 {
			slices.Reverse(sides)
		}
		l = append(l, sides...)
	}
	texts := []string{textOf("leaf", joined(l...))}
	for i, beside := range x.Way {
		below := sha.Sum(texts[i])
		if x.Leaf>>i&1 == 1 {
			below, beside = beside, below
		}
		texts = append(texts, textOf("node", joined(below), joined(beside)))
	}
	root := sha.Sum(texts[p.Height])
	texts = append(texts, textOf("key", string([]byte{byte(p.Bits >> 8), byte(p.Bits)}), string([]byte{byte(p.Height)}), joined(root)))
	slices.Reverse(texts)
	return texts
}

// alike tells whether two sums' first bits are the same, bit by bit.
func alike(bits int, a, b api.Id) bool {
	for i := range bits {
		if bitOf(a, i) != bitOf(b, i) {
			return false
		}
	}
	return true
}

// found is the witness that the words say, of a signature that is verified.
func found(p api.Params, seed string, signed []witness.Row, sum api.Id, x api.Signature) witness.Witness {
	a, b := textsOf(p, sum, x), textsOf(p, sum, ownOf(p, seed, x.Leaf, sum))
	for i := range a {
		if a[i] != b[i] {
			return witness.Witness{Kind: 2, A: a[i], B: b[i]}
		}
	}
	var seen [256][2]bool
	for _, r := range signed {
		if r.Leaf != x.Leaf {
			continue
		}
		if alike(p.Bits, r.Sum, sum) {
			return witness.Witness{Kind: 1}
		}
		for bit := range p.Bits {
			seen[bit][bitOf(r.Sum, bit)] = true
		}
	}
	for bit := range p.Bits {
		if side := bitOf(sum, bit); !seen[bit][side] {
			return witness.Witness{Kind: 3, Leaf: x.Leaf, Bit: bit, Side: side, Value: x.Shown[bit]}
		}
	}
	return witness.Witness{}
}

// looks holds what Find tells of a signature that is verified against the words, and tells it.
func looks(t *testing.T, p api.Params, seed string, signed []witness.Row, sum api.Id, x api.Signature) witness.Witness {
	t.Helper()
	w, e := witness.Find(p, seed, signed, sum, x)
	if want := found(p, seed, signed, sum, x); w != want || e != api.OK {
		t.Fatalf("%v, leaf %d, %x, of %v: %x, %d, not %x", p, x.Leaf, sum, signed, w, e, want)
	}
	if holds := witness.Holds(p, seed, signed, sum, x, w); holds != (w.Kind != witness.None) {
		t.Fatalf("%v, leaf %d, %x, of %v: %x holds: %v", p, x.Leaf, sum, signed, w, holds)
	}
	if w.Kind == witness.None && witness.Keeps(signed) {
		t.Fatalf("%v, leaf %d, %x, of %v: nothing", p, x.Leaf, sum, signed)
	}
	return w
}

// signs is a signature by a leaf of a seed.
func signs(t *testing.T, p api.Params, seed string, leaf int, sum api.Id) api.Signature {
	t.Helper()
	s, e := signer.New(p, seed, leaf)
	if e != api.OK {
		t.Fatal(e)
	}
	x, e := s.Sign(sum)
	if e != api.OK {
		t.Fatal(e)
	}
	return x
}

// copied is a signature of its own.
func copied(x api.Signature) api.Signature {
	return api.Signature{Leaf: x.Leaf, Shown: slices.Clone(x.Shown), Hidden: slices.Clone(x.Hidden), Way: slices.Clone(x.Way)}
}

// wrong are params that aren't right, by their bits, by their height or by both.
func wrong() []api.Params {
	return []api.Params{{}, {Height: 3}, {Bits: 7}, {Bits: 12, Height: 1}, {Bits: 264, Height: 1}, {Bits: -8, Height: 1}, {Bits: math.MinInt}, {Bits: math.MaxInt - 7},
		{Bits: 8, Height: -1}, {Bits: 8, Height: 11}, {Bits: 8, Height: 64}, {Bits: 256, Height: math.MinInt}, {Bits: 256, Height: math.MaxInt}, {Bits: 9, Height: 11}, {Bits: -1, Height: -1}}
}

// small are params whose trees are soon made.
func small() []api.Params {
	return []api.Params{{Bits: 256, Height: 1}, {Bits: 128}, {Bits: 16, Height: 4}, {Bits: 24, Height: 3}, {Bits: 8}, {Bits: 8, Height: 1}, {Bits: 8, Height: 2}}
}

// sums are some to be signed.
func sums() []api.Id {
	ones, mixed := api.Id{}, api.Id{}
	for i := range ones {
		ones[i], mixed[i] = 255, byte(37*i+11)
	}
	return []api.Id{{}, {0xa5}, {31: 1}, ones, mixed}
}

// turned is a sum one of whose bits is the other one.
func turned(a api.Id, i int) api.Id {
	a[i/8] ^= 128 >> (i % 8)
	return a
}

// P9.1.
func TestKinds(t *testing.T) {
	if witness.None != 0 || witness.Honest != 1 || witness.Collision != 2 || witness.Preimage != 3 {
		t.Error("numbers of kinds")
	}
}

// P9.1.
func TestAlike(t *testing.T) {
	for _, a := range sums() {
		for i := range 256 {
			b := turned(a, i)
			for bits := -2; bits < 260; bits++ {
				if witness.Alike(bits, a, b) != (bits <= i) || witness.Alike(bits, b, a) != (bits <= i) || !witness.Alike(bits, a, a) {
					t.Fatalf("%d bits, bit %d", bits, i)
				}
			}
			if witness.Alike(math.MaxInt, a, b) || !witness.Alike(math.MinInt, a, b) {
				t.Fatalf("bit %d", i)
			}
		}
	}
	if !witness.Alike(math.MaxInt, api.Id{7}, api.Id{7}) {
		t.Error("the same sum")
	}
}

// P9.1.
func TestKeeps(t *testing.T) {
	a, b := api.Id{1}, api.Id{2}
	keep := [][]witness.Row{nil, {}, {{0, a}}, {{0, a}, {1, a}}, {{1, a}, {0, b}, {2, a}}, {{-1, a}, {1, a}, {math.MinInt, a}, {math.MaxInt, b}}, {{0, a}, {1 << 32, a}, {256, a}}}
	for _, l := range keep {
		if !witness.Keeps(l) {
			t.Errorf("%v doesn't", l)
		}
	}
	not := [][]witness.Row{{{0, a}, {0, b}}, {{0, a}, {0, a}}, {{3, a}, {1, a}, {3, b}}, {{-1, a}, {0, a}, {-1, a}}, {{1, a}, {1, b}, {1, a}}, {{0, a}, {1, b}, {1, a}, {2, a}}}
	for _, l := range not {
		if witness.Keeps(l) {
			t.Errorf("%v does", l)
		}
	}
	var many []witness.Row
	for leaf := range 1024 {
		many = append(many, witness.Row{Leaf: leaf})
	}
	if !witness.Keeps(many) || witness.Keeps(append(many, witness.Row{Leaf: 1023, Sum: a})) {
		t.Error("of many leaves")
	}
}

// P9.1, P9.2, P9.3. Of each signature of an owner: with nothing signed, with it, and with others.
func TestFind(t *testing.T) {
	for _, p := range small() {
		n := 1 << p.Height
		for _, leaf := range slices.Compact([]int{0, n / 2, n - 1}) {
			for _, sum := range sums() {
				x := signs(t, p, "seed", leaf, sum)
				last := turned(sum, p.Bits-1)
				kinds := []int{
					looks(t, p, "seed", nil, sum, x).Kind,
					looks(t, p, "seed", []witness.Row{{leaf, last}}, sum, x).Kind,
					looks(t, p, "seed", []witness.Row{{leaf + 1, sum}, {leaf - 1, sum}}, sum, x).Kind,
					looks(t, p, "seed", []witness.Row{{leaf, sum}}, sum, x).Kind,
					looks(t, p, "seed", []witness.Row{{leaf + 1, last}, {leaf, sum}, {leaf - 1, last}}, sum, x).Kind,
					looks(t, p, "seed", []witness.Row{{leaf, last}, {leaf, sum}}, sum, x).Kind,
					looks(t, p, "seed", []witness.Row{{leaf, last}, {leaf, turned(sum, 0)}}, sum, x).Kind,
				}
				if !slices.Equal(kinds, []int{3, 3, 3, 1, 1, 1, 0}) {
					t.Fatalf("%v, leaf %d, %x: %v", p, leaf, sum, kinds)
				}
			}
		}
	}
}

// P9.1. The example of the chapter.
func TestFindNothingSigned(t *testing.T) {
	p := api.Params{Bits: 256, Height: 1}
	for _, sum := range sums() {
		x := signs(t, p, "s", 0, sum)
		w, e := witness.Find(p, "s", nil, sum, x)
		if w != (witness.Witness{Kind: witness.Preimage, Side: bitOf(sum, 0), Value: x.Shown[0]}) || e != api.OK {
			t.Errorf("%x: %x, %d", sum, w, e)
		}
	}
}

// P9.1, P9.2, P9.3. Of each sum of eight bits: each other one signed ahead.
func TestFindEachSum(t *testing.T) {
	p := api.Params{Bits: 8}
	for a := range 256 {
		if a%16 > 1 {
			continue
		}
		sum := api.Id{byte(a), 9}
		x := signs(t, p, "", 0, sum)
		for b := range 256 {
			w := looks(t, p, "", []witness.Row{{0, api.Id{byte(b), 7}}}, sum, x)
			if (w.Kind == witness.Honest) != (a == b) || (w.Kind == witness.Preimage) != (a != b) {
				t.Fatalf("%x of %x: %x", a, b, w)
			}
		}
	}
}

// P9.1, P9.2, P9.3. Rows of many kinds, of the leaf and of others.
func TestFindManyRows(t *testing.T) {
	dice := uint32(7)
	roll := func(n int) int {
		dice = dice*1664525 + 1013904223
		return int(dice>>16) % n
	}
	p := api.Params{Bits: 8, Height: 2}
	var kinds [4]int
	for range 4 {
		for leaf := range 4 {
			sum := api.Id{byte(roll(256)), byte(roll(256))}
			x := signs(t, p, "s", leaf, sum)
			for range 100 {
				var signed []witness.Row
				for range roll(7) {
					a := api.Id{byte(roll(256)), byte(roll(256))}
					if roll(3) == 0 {
						a[0] = sum[0]
						a = turned(a, roll(10))
					}
					signed = append(signed, witness.Row{Leaf: roll(6) - 1, Sum: a})
				}
				kinds[looks(t, p, "s", signed, sum, x).Kind]++
			}
		}
	}
	if kinds[0] == 0 || kinds[1] == 0 || kinds[2] > 0 || kinds[3] == 0 {
		t.Error(kinds)
	}
}

// P9.1. Bits behind those that are signed don't count, and all of those do.
func TestFindSignedBits(t *testing.T) {
	for _, p := range []api.Params{{Bits: 8}, {Bits: 64, Height: 1}, {Bits: 248}, {Bits: 256}} {
		sum := sums()[4]
		x := signs(t, p, "s", 0, sum)
		for i := range 256 {
			if i%8 > 0 && i%8 < 7 { // a byte's first bit and its last one
				continue
			}
			w := looks(t, p, "s", []witness.Row{{0, turned(sum, i)}}, sum, x)
			if i < p.Bits && (w.Kind != witness.Preimage || w.Bit != i) || i >= p.Bits && w.Kind != witness.Honest {
				t.Fatalf("%v, bit %d: %x", p, i, w)
			}
		}
		if p.Bits < 256 {
			later := turned(sum, p.Bits)
			looks(t, p, "s", nil, later, x)
			looks(t, p, "s", []witness.Row{{0, sum}}, later, x)
		}
	}
}

// P9.1. Of the highest tree, and of the most bits.
func TestFindHigh(t *testing.T) {
	for _, p := range []api.Params{{Bits: 8, Height: 10}, {Bits: 256, Height: 4}} {
		for _, leaf := range []int{0, 5, 1<<p.Height - 1} {
			sum := sums()[4]
			x := signs(t, p, "s", leaf, sum)
			if looks(t, p, "s", []witness.Row{{leaf, turned(sum, 7)}}, sum, x).Bit != 7 {
				t.Errorf("%v, leaf %d", p, leaf)
			}
		}
	}
}

// refused looks at an error of Find, with rows and without.
func refused(t *testing.T, p api.Params, seed string, sum api.Id, x api.Signature, want api.Errno) {
	t.Helper()
	for _, signed := range [][]witness.Row{nil, {{x.Leaf, sum}}, {{x.Leaf, sum}, {x.Leaf, api.Id{1}}}} {
		if w, e := witness.Find(p, seed, signed, sum, x); w != (witness.Witness{}) || e != want {
			t.Errorf("%v, %.10q, leaf %d: %x, %d, not %d", p, seed, x.Leaf, w, e, want)
		}
	}
}

// P9.1. That the params are wrong is told first, then what Verify tells.
func TestFindWrong(t *testing.T) {
	p := api.Params{Bits: 16, Height: 2}
	sum := sums()[4]
	x := signs(t, p, "s", 1, sum)
	for _, q := range wrong() {
		refused(t, q, "s", sum, x, api.ErrArg)
		refused(t, q, "s", sum, api.Signature{}, api.ErrArg)
	}
	for _, leaf := range []int{-1, 4, 5, 1 << 40, math.MinInt, math.MaxInt} {
		y := copied(x)
		y.Leaf = leaf
		refused(t, p, "s", sum, y, api.ErrForm)
	}
	for row := range 3 {
		for _, by := range []int{-1, 1} {
			y := copied(x)
			l := []*[]api.Id{&y.Shown, &y.Hidden, &y.Way}[row]
			*l = append(*l, api.Id{})[:len(*l)+by]
			refused(t, p, "s", sum, y, api.ErrForm)
			refused(t, p, "other", sum, y, api.ErrForm)
		}
	}
	refused(t, p, "s", sum, api.Signature{}, api.ErrForm)
	for _, q := range []api.Params{{Bits: 8, Height: 2}, {Bits: 24, Height: 2}, {Bits: 16, Height: 1}, {Bits: 16, Height: 3}} {
		refused(t, q, "s", sum, x, api.ErrForm)
	}
	for _, seed := range []string{"", "other", "s\x00", "S"} {
		refused(t, p, seed, sum, x, api.ErrSign)
	}
}

// P9.1. Whatever isn't the owner's isn't verified.
func TestFindChanged(t *testing.T) {
	p := api.Params{Bits: 8, Height: 2}
	sum := api.Id{0x3c}
	x := signs(t, p, "s", 2, sum)
	for i := range 8 {
		refused(t, p, "s", turned(sum, i), x, api.ErrSign)
	}
	for row := range 3 {
		y := copied(x)
		l := [][]api.Id{y.Shown, y.Hidden, y.Way}[row]
		for i := range l {
			l[i] = turned(l[i], 255)
			refused(t, p, "s", sum, y, api.ErrSign)
			l[i] = turned(l[i], 255)
		}
	}
	for _, leaf := range []int{0, 1, 3} {
		y := copied(x)
		y.Leaf = leaf
		refused(t, p, "s", sum, y, api.ErrSign)
	}
	refused(t, api.Params{Bits: 8, Height: 2}, "s", sum, signs(t, p, "t", 2, sum), api.ErrSign)
}

// P9.1.
func TestHoldsHonest(t *testing.T) {
	p := api.Params{Bits: 16, Height: 1}
	sum := sums()[4]
	w := witness.Witness{Kind: witness.Honest}
	same, later := witness.Row{Leaf: 1, Sum: sum}, witness.Row{Leaf: 1, Sum: turned(sum, 16)}
	near, beside := witness.Row{Leaf: 1, Sum: turned(sum, 15)}, witness.Row{Leaf: 0, Sum: sum}
	x := api.Signature{Leaf: 1} // whether it is verified isn't asked
	for _, signed := range [][]witness.Row{{same}, {later}, {near, same}, {beside, near, later}} {
		if !witness.Holds(p, "s", signed, sum, x, w) {
			t.Errorf("of %v it doesn't", signed)
		}
	}
	for _, signed := range [][]witness.Row{nil, {near}, {beside}, {beside, near}} {
		if witness.Holds(p, "s", signed, sum, x, w) {
			t.Errorf("of %v it does", signed)
		}
	}
	if !witness.Holds(p, "", []witness.Row{{-7, sum}}, sum, api.Signature{Leaf: -7}, w) || witness.Holds(p, "s", []witness.Row{same}, sum, api.Signature{}, w) {
		t.Error("of other leaves")
	}
}

// P9.1. There are no two texts of one sum at hand: TestWeakSums has some.
func TestHoldsCollision(t *testing.T) {
	p := api.Params{Bits: 8}
	for _, l := range [][2]string{{"", ""}, {"a", "a"}, {"a", "b"}, {"", "\x00"}, {"abc", "abd"}} {
		w := witness.Witness{Kind: witness.Collision, A: l[0], B: l[1]}
		if witness.Holds(p, "s", []witness.Row{{0, api.Id{}}}, api.Id{}, api.Signature{}, w) {
			t.Errorf("%q", l)
		}
	}
}

// P9.1. Each side of each bit that no row of the leaf has shown is one, whichever is signed.
func TestHoldsPreimage(t *testing.T) {
	p := api.Params{Bits: 8, Height: 2}
	sum := api.Id{0xa5}
	x := api.Signature{Leaf: 2} // whether it is verified isn't asked
	signed := []witness.Row{{2, api.Id{0x0f, 0xff}}, {1, api.Id{0xff}}, {2, api.Id{0x07}}, {3, api.Id{}}}
	for bit := range 8 {
		for side := range 2 {
			w := witness.Witness{Kind: witness.Preimage, Leaf: 2, Bit: bit, Side: side, Value: secret("s", 2, bit, side)}
			shows := bit < 4 && side == 0 || bit == 4 || bit > 4 && side == 1
			if witness.Holds(p, "s", signed, sum, x, w) == shows || !witness.Holds(p, "s", nil, sum, x, w) {
				t.Errorf("bit %d, side %d", bit, side)
			}
			others := []witness.Witness{w, w, w, w, w, w}
			others[0].Kind = witness.Collision
			others[1].Leaf = 1
			others[2].Bit = (bit + 1) % 8
			others[3].Side = 1 - side
			others[4].Value = public(w.Value)
			others[5].Value = turned(w.Value, 255)
			for i, v := range others {
				if witness.Holds(p, "s", nil, sum, x, v) {
					t.Errorf("bit %d, side %d, change %d", bit, side, i)
				}
			}
			if witness.Holds(p, "t", nil, sum, x, w) || witness.Holds(p, "s", nil, sum, api.Signature{Leaf: 1}, w) {
				t.Errorf("bit %d, side %d, of another seed or leaf", bit, side)
			}
		}
	}
}

// P9.1. Numbers beyond their range are none, though a secret counts them as the nearest within it.
func TestHoldsPreimageBeyond(t *testing.T) {
	p := api.Params{Bits: 16, Height: 1}
	holds := func(bit, side int, value api.Id) bool {
		w := witness.Witness{Kind: witness.Preimage, Bit: bit, Side: side, Value: value}
		return witness.Holds(p, "s", nil, api.Id{}, api.Signature{}, w)
	}
	if !holds(0, 0, secret("s", 0, 0, 0)) || !holds(15, 1, secret("s", 0, 15, 1)) {
		t.Error("within")
	}
	for _, bit := range []int{16, 17, 255, 256, 65535} {
		if holds(bit, 0, secret("s", 0, bit, 0)) {
			t.Errorf("bit %d", bit)
		}
	}
	for _, below := range []int{-1, -8, math.MinInt} {
		if holds(below, 0, secret("s", 0, 0, 0)) || holds(3, below, secret("s", 0, 3, 0)) {
			t.Errorf("below: %d", below)
		}
	}
	for _, above := range []int{2, 3, 255, 256, 257, math.MaxInt} {
		if holds(3, above, secret("s", 0, 3, 1)) {
			t.Errorf("side %d", above)
		}
	}
	if holds(math.MaxInt, 0, secret("s", 0, 65535, 0)) {
		t.Error("the greatest bit")
	}
}

// P9.1.
func TestHoldsWrong(t *testing.T) {
	p := api.Params{Bits: 8}
	sum := api.Id{1}
	x := signs(t, p, "s", 0, sum)
	own := []witness.Row{{0, sum}}
	for _, kind := range []int{0, -1, 4, 5, math.MinInt, math.MaxInt} {
		for _, signed := range [][]witness.Row{nil, own} {
			if witness.Holds(p, "s", signed, sum, x, witness.Witness{Kind: kind, A: "a", B: "b", Value: x.Shown[0]}) {
				t.Errorf("kind %d", kind)
			}
		}
	}
	for _, q := range wrong() {
		if witness.Holds(q, "s", own, sum, x, witness.Witness{Kind: witness.Honest}) {
			t.Errorf("%v: honest", q)
		}
		if witness.Holds(q, "s", nil, sum, x, witness.Witness{Kind: witness.Preimage, Value: x.Shown[0]}) {
			t.Errorf("%v: preimage", q)
		}
	}
}

// P9.1. What is handed in isn't changed.
func TestMemory(t *testing.T) {
	p := api.Params{Bits: 8, Height: 2}
	sum := api.Id{0x5a}
	x := signs(t, p, "s", 3, sum)
	roomy := api.Signature{Leaf: 3, Shown: append(x.Shown, api.Id{1}), Hidden: append(x.Hidden, api.Id{2}), Way: append(x.Way, api.Id{3})}
	y := api.Signature{Leaf: 3, Shown: roomy.Shown[:8], Hidden: roomy.Hidden[:8], Way: roomy.Way[:2]}
	signed := []witness.Row{{3, api.Id{0x5b}}, {0, api.Id{}}, {9, sum}}
	before, rows := copied(roomy), slices.Clone(signed)
	w := looks(t, p, "s", signed[:2], sum, y)
	witness.Keeps(signed[:2])
	if !reflect.DeepEqual(roomy, before) || !slices.Equal(signed, rows) {
		t.Error("what was handed in was changed")
	}
	y.Shown[7] = api.Id{}
	if w.Bit != 7 || w.Value != before.Shown[7] {
		t.Errorf("%x", w)
	}
}

// P9.1. A seed may be any text, and a key its own one alone.
func TestFindSeeds(t *testing.T) {
	p := api.Params{Bits: 8, Height: 1}
	for _, seed := range []string{"", "\x00", "a/b\n", strings.Repeat("long", 100)} {
		sum := api.Id{0x77}
		x := signs(t, p, seed, 1, sum)
		looks(t, p, seed, nil, sum, x)
		looks(t, p, seed, []witness.Row{{1, sum}}, sum, x)
		key, _ := keytree.Of(p, seed)
		if signer.Verify(p, key, sum, x) != api.OK {
			t.Errorf("%.10q", seed)
		}
	}
}
