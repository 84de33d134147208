package keytree_test

import (
	"crypto/sha256"
	"encoding/binary"
	"math"
	"slices"
	"strings"
	"testing"

	"quitclaim/api"
	"quitclaim/keytree"
	"quitclaim/lamport"
)

// tagged is a tagged sum, worked out from its bytes.
func tagged(name string, parts ...string) api.Id {
	b := append([]byte{byte(len(name))}, name...)
	for _, p := range parts {
		b = binary.BigEndian.AppendUint64(b, uint64(len(p)))
		b = append(b, p...)
	}
	return sha256.Sum256(b)
}

// node is what stands above two sums, worked out so.
func node(a, b api.Id) api.Id { return tagged("node", string(a[:]), string(b[:])) }

// keyOf is a root's key, worked out so.
func keyOf(p api.Params, root api.Id) api.Id {
	return tagged("key", string([]byte{byte(p.Bits >> 8), byte(p.Bits)}), string([]byte{byte(p.Height)}), string(root[:]))
}

// above is what stands so high above sums, from the place'th of so many on.
func above(l []api.Id, height, place int) api.Id {
	if height == 0 {
		return l[place]
	}
	return node(above(l, height-1, 2*place), above(l, height-1, 2*place+1))
}

// leavesOf are the sums of a seed's leaves.
func leavesOf(t *testing.T, p api.Params, seed string) []api.Id {
	t.Helper()
	var l []api.Id
	for leaf := range 1 << p.Height {
		a, e := lamport.Leaf(seed, leaf, p.Bits)
		if e != api.OK {
			t.Fatal(e)
		}
		l = append(l, a)
	}
	return l
}

// some are sums, unlike one another.
func some(n int) []api.Id {
	l := make([]api.Id, n)
	for i := range l {
		l[i] = api.Id{byte(i >> 8), byte(i), 7, 31: byte(3 * i)}
	}
	return l
}

// right tells whether params are, by the words.
func right(p api.Params) bool {
	return p.Bits >= 8 && p.Bits <= 256 && p.Bits%8 == 0 && p.Height >= 0 && p.Height <= 10
}

// params are many, right ones and wrong ones.
func params() []api.Params {
	bits := []int{math.MinInt, -8, 264, 512, 65544, 1<<32 + 8, math.MaxInt, math.MaxInt - 7}
	for i := -1; i < 260; i++ {
		bits = append(bits, i)
	}
	heights := []int{math.MinInt, 64, 256, 1 << 32, math.MaxInt}
	for i := -2; i < 14; i++ {
		heights = append(heights, i)
	}
	var l []api.Params
	for _, b := range bits {
		for _, h := range heights {
			l = append(l, api.Params{Bits: b, Height: h})
		}
	}
	return l
}

// wrong are params that aren't right, by their bits, by their height or by both.
func wrong() []api.Params {
	return []api.Params{{}, {Height: 3}, {Bits: 7}, {Bits: 12, Height: 1}, {Bits: 264, Height: 1}, {Bits: -8, Height: 1}, {Bits: math.MinInt}, {Bits: math.MaxInt - 7},
		{Bits: 8, Height: -1}, {Bits: 8, Height: 11}, {Bits: 8, Height: 64}, {Bits: 256, Height: math.MinInt}, {Bits: 256, Height: math.MaxInt}, {Bits: 9, Height: 11}, {Bits: -1, Height: -1}}
}

// small are params whose trees are soon made.
func small() []api.Params {
	l := []api.Params{{Bits: 256}, {Bits: 256, Height: 1}, {Bits: 128, Height: 2}, {Bits: 16, Height: 5}, {Bits: 24, Height: 3}}
	for h := range 8 {
		l = append(l, api.Params{Bits: 8, Height: h})
	}
	return l
}

// seeds are some, short and long.
func seeds() []string { return []string{"", "s", "\x00", strings.Repeat("long", 100)} }

// P7.1.
func TestRightAndLeaves(t *testing.T) {
	for _, p := range params() {
		want := 0
		if right(p) {
			want = 1 << p.Height
		}
		if keytree.Right(p) != right(p) || keytree.Leaves(p) != want {
			t.Errorf("%v: %v, %d", p, keytree.Right(p), keytree.Leaves(p))
		}
	}
	if keytree.Leaves(api.Params{Bits: 8, Height: 3}) != 8 || keytree.Leaves(api.Params{Bits: 256, Height: 10}) != 1024 || keytree.Leaves(api.Params{Bits: 8}) != 1 {
		t.Error("leaves")
	}
}

// P7.1.
func TestKey(t *testing.T) {
	seen := map[api.Id]bool{}
	n := 0
	for _, p := range params() {
		for _, root := range []api.Id{{}, {1}, {31: 255}} {
			a, e := keytree.Key(p, root)
			if !right(p) {
				if a != (api.Id{}) || e != api.ErrArg {
					t.Errorf("%v: %x, %d", p, a, e)
				}
				continue
			}
			if a != keyOf(p, root) || e != api.OK {
				t.Errorf("%v: %x, %d", p, a, e)
			}
			seen[a] = true
			n++
		}
	}
	if len(seen) != n || n != 3*32*11 {
		t.Errorf("%d keys of %d", len(seen), n)
	}
}

// P7.1.
func TestOf(t *testing.T) {
	for _, p := range small() {
		for _, seed := range seeds() {
			want := keyOf(p, above(leavesOf(t, p, seed), p.Height, 0))
			if a, e := keytree.Of(p, seed); a != want || e != api.OK {
				t.Errorf("%v of %.10q: %x, %d", p, seed, a, e)
			}
		}
	}
	high := api.Params{Bits: 8, Height: 10}
	if a, e := keytree.Of(high, "s"); a != keyOf(high, above(leavesOf(t, high, "s"), 10, 0)) || e != api.OK {
		t.Errorf("%x, %d", a, e)
	}
	for _, p := range wrong() {
		if a, e := keytree.Of(p, "s"); a != (api.Id{}) || e != api.ErrArg {
			t.Errorf("%v: %x, %d", p, a, e)
		}
	}
}

// P7.1, P7.2.
func TestWay(t *testing.T) {
	for _, p := range small() {
		if p.Height > 5 {
			continue
		}
		ways(t, p, "s")
	}
	for _, seed := range seeds() {
		ways(t, api.Params{Bits: 8, Height: 2}, seed)
	}
}

// ways looks at the ways of all leaves of a seed, and at what they are climbed to.
func ways(t *testing.T, p api.Params, seed string) {
	t.Helper()
	l := leavesOf(t, p, seed)
	key, _ := keytree.Of(p, seed)
	for leaf := range l {
		way, e := keytree.Way(p, seed, leaf)
		if len(way) != p.Height || e != api.OK {
			t.Fatalf("%v, leaf %d: %x, %d", p, leaf, way, e)
		}
		for i, a := range way {
			beside := leaf >> i
			if beside%2 == 0 {
				beside++
			} else {
				beside--
			}
			if a != above(l, i, beside) {
				t.Errorf("%v, leaf %d: the sum %d", p, leaf, i)
			}
		}
		root := keytree.Climb(leaf, l[leaf], way)
		if root != above(l, p.Height, 0) {
			t.Errorf("%v, leaf %d climbs to %x", p, leaf, root)
		}
		if a, e := keytree.Key(p, root); a != key || e != api.OK {
			t.Errorf("%v, leaf %d: the key %x, %d", p, leaf, a, e)
		}
	}
}

// P7.2. In the highest tree, some leaves.
func TestHighWays(t *testing.T) {
	p := api.Params{Bits: 8, Height: 10}
	l := leavesOf(t, p, "seed")
	root, _ := keytree.Fold(l)
	for _, leaf := range []int{0, 1, 511, 512, 682, 1022, 1023} {
		if way, e := keytree.Way(p, "seed", leaf); len(way) != 10 || e != api.OK || keytree.Climb(leaf, l[leaf], way) != root {
			t.Errorf("leaf %d: %d", leaf, e)
		}
	}
}

// P7.1. That the params are wrong is told ahead of the leaf.
func TestNoWay(t *testing.T) {
	for _, p := range small() {
		n := 1 << p.Height
		for _, leaf := range []int{-1, -2, -n, n, n + 1, 2 * n, 1024, 1 << 32, math.MinInt, math.MaxInt} {
			if way, e := keytree.Way(p, "s", leaf); len(way) > 0 || e != api.ErrRange {
				t.Errorf("%v, leaf %d: %x, %d", p, leaf, way, e)
			}
		}
	}
	for _, p := range wrong() {
		for _, leaf := range []int{0, 1, -1, 2048, math.MinInt, math.MaxInt} {
			if way, e := keytree.Way(p, "s", leaf); len(way) > 0 || e != api.ErrArg {
				t.Errorf("%v, leaf %d: %x, %d", p, leaf, way, e)
			}
		}
	}
}

// P7.1. Any leaf climbs any way, whether there is a tree of it or not.
func TestClimb(t *testing.T) {
	sum := api.Id{4, 31: 2}
	for _, n := range []int{0, 1, 2, 3, 10, 11, 62, 63, 64, 65, 100} {
		way := some(n)
		leaves := []int{0, 1, 2, 3, 5, 6, 1023, 1024, 0x2aaaaaaa, 1 << 62, math.MaxInt, math.MaxInt - 1}
		for _, leaf := range leaves {
			want, number := sum, leaf
			for _, a := range way {
				if number&1 == 1 {
					want = node(a, want)
				} else {
					want = node(want, a)
				}
				number >>= 1
			}
			if got := keytree.Climb(leaf, sum, way); got != want {
				t.Errorf("leaf %d, %d sums: %x", leaf, n, got)
			}
		}
		for _, leaf := range []int{-1, -2, -3, -1024, math.MinInt, math.MinInt + 1} {
			if keytree.Climb(leaf, sum, way) != keytree.Climb(0, sum, way) {
				t.Errorf("leaf %d isn't as 0", leaf)
			}
		}
	}
	if keytree.Climb(7, sum, nil) != sum || keytree.Climb(1, sum, []api.Id{{1}}) != node(api.Id{1}, sum) || keytree.Climb(2, sum, []api.Id{{1}}) != node(sum, api.Id{1}) {
		t.Error("one sum")
	}
}

// P7.1.
func TestFold(t *testing.T) {
	for height := range 13 {
		l := some(1 << height)
		root, rows := keytree.Fold(l)
		if root != above(l, height, 0) || len(rows) != height+1 {
			t.Fatalf("%d: %x, %d rows", len(l), root, len(rows))
		}
		if !slices.Equal(rows[0], l) || rows[height][0] != root {
			t.Errorf("%d: the first row, or the last one", len(l))
		}
		for i := 1; i < len(rows); i++ {
			if len(rows[i]) != 1<<(height-i) {
				t.Fatalf("%d: %d in row %d", len(l), len(rows[i]), i)
			}
			for k, a := range rows[i] {
				if a != node(rows[i-1][2*k], rows[i-1][2*k+1]) {
					t.Errorf("%d: sum %d of row %d", len(l), k, i)
				}
			}
		}
	}
}

// P7.1. Of other counts there is nothing.
func TestFoldNothing(t *testing.T) {
	counts := []int{96, 100, 127, 129, 192, 255, 257, 768, 1000, 1023, 1025, 4095, 4097}
	for n := range 70 {
		if !slices.Contains([]int{1, 2, 4, 8, 16, 32, 64}, n) {
			counts = append(counts, n)
		}
	}
	for _, n := range counts {
		if root, rows := keytree.Fold(some(n)); root != (api.Id{}) || len(rows) > 0 {
			t.Errorf("%d: %x, %d rows", n, root, len(rows))
		}
	}
	if root, rows := keytree.Fold(nil); root != (api.Id{}) || len(rows) > 0 {
		t.Errorf("%x, %d rows", root, len(rows))
	}
}

// spoil writes over all of a row, its spare room too.
func spoil(l []api.Id) {
	l = l[:cap(l)]
	for i := range l {
		l[i] = api.Id{9, 9}
	}
}

// P7.1. What is handed in is neither changed nor kept, and no two rows that are told share anything.
func TestMemory(t *testing.T) {
	roomy := some(20)
	want := slices.Clone(roomy)
	_, rows := keytree.Fold(roomy[:8])
	_, others := keytree.Fold(roomy[:8])
	keytree.Fold(roomy[:7])
	keytree.Climb(3, api.Id{1}, roomy[:8])
	if !slices.Equal(roomy, want) {
		t.Error("the sums were changed")
	}
	for i := range rows {
		spoil(rows[i])
		for k := range others {
			if k > i && slices.Contains(rows[k], api.Id{9, 9}) || slices.Contains(others[k], api.Id{9, 9}) {
				t.Errorf("row %d shares with row %d", i, k)
			}
		}
	}
	if !slices.Equal(roomy, want) {
		t.Error("the sums are shared")
	}
	p := api.Params{Bits: 8, Height: 3}
	way, _ := keytree.Way(p, "s", 5)
	same := slices.Clone(way)
	other, _ := keytree.Way(p, "s", 5)
	spoil(other)
	if again, _ := keytree.Way(p, "s", 5); !slices.Equal(way, same) || !slices.Equal(again, same) {
		t.Error("two ways share something")
	}
}
