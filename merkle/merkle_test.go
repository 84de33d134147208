package merkle_test

import (
	"crypto/sha256"
	"fmt"
	"math"
	"math/rand"
	"reflect"
	"slices"
	"strings"
	"testing"

	"quitclaim/api"
	"quitclaim/merkle"
	"quitclaim/sha"
)

// brief is the beginning of a value's text.
func brief(v any) string {
	s := fmt.Sprintf("%x", v)
	return s[:min(len(s), 300)]
}

// name is the id of a number; ids rise as numbers do, some by their last byte alone.
func name(n int) api.Id { return api.Id{0: byte(n >> 4), 31: byte(n & 15 * 17)} }

// row is so many ids, with one left out ahead of each and behind the last one.
func row(n int) []api.Id {
	var l []api.Id
	for i := range n {
		l = append(l, name(2*i+1))
	}
	return l
}

// less tells whether an id is ahead of another one.
func less(a, b api.Id) bool { return strings.Compare(string(a[:]), string(b[:])) < 0 }

// text is what a tagged sum is the sum of, by the words.
func text(name string, parts ...string) string {
	s := string([]byte{byte(len(name))}) + name
	for _, p := range parts {
		s += eight(len(p)) + p
	}
	return s
}

// eight is a number as eight bytes, the highest first.
func eight(n int) string {
	var s string
	for i := 7; i >= 0; i-- {
		s += string([]byte{byte(n >> (8 * i))})
	}
	return s
}

// part is how many of two ids or more are in the first part.
func part(n int) int {
	k := 1
	for p := 1; p < n && p > 0; p *= 2 {
		k = p
	}
	return k
}

// rootText is what a row's root is the sum of.
func rootText(l []api.Id) string {
	switch len(l) {
	case 0:
		return text("none")
	case 1:
		return text("item", string(l[0][:]))
	}
	k := part(len(l))
	a, b := rootOf(l[:k]), rootOf(l[k:])
	return text("join", string(a[:]), string(b[:]))
}

// rootOf is a row's root.
func rootOf(l []api.Id) api.Id { return sha.Sum(rootText(l)) }

// wholeOf is a set's sum.
func wholeOf(count int, root api.Id) api.Id {
	return sha.Sum(text("set", eight(max(count, 0)), string(root[:])))
}

// wayOf is a proof of a row's id at a place.
func wayOf(l []api.Id, at int) []api.Id {
	if len(l) < 2 {
		return nil
	}
	k := part(len(l))
	if at < k {
		return append(wayOf(l[:k], at), rootOf(l[k:]))
	}
	return append(wayOf(l[k:], at-k), rootOf(l[:k]))
}

// proofOf tells whether an id is in a row.
func proofOf(l []api.Id, a api.Id) merkle.Proof {
	p := merkle.Proof{Count: len(l)}
	for i, b := range l {
		ahead := less(b, a) && (i == len(l)-1 || less(a, l[i+1]))
		behind := less(a, b) && (i == 0 || less(l[i-1], a))
		if a == b || ahead || behind {
			p.Places = append(p.Places, merkle.Place{Id: b, At: i, Way: wayOf(l, i)})
		}
	}
	return p
}

// climbOf is the root to which a place leads; whether it leads to one.
func climbOf(count int, p merkle.Place) (api.Id, bool) {
	if p.At < 0 || p.At >= count || count > 1<<40 {
		return api.Id{}, false
	}
	if (count == 1) != (len(p.Way) == 0) {
		return api.Id{}, false
	}
	if count == 1 {
		return rootOf([]api.Id{p.Id}), true
	}
	last := len(p.Way) - 1
	k, beside := part(count), p.Way[last]
	below := merkle.Place{Id: p.Id, At: p.At, Way: p.Way[:last]}
	var root api.Id
	ok := false
	if p.At < k {
		a, leads := climbOf(k, below)
		root, ok = sha.Sum(text("join", string(a[:]), string(beside[:]))), leads
	} else {
		below.At -= k
		a, leads := climbOf(count-k, below)
		root, ok = sha.Sum(text("join", string(beside[:]), string(a[:]))), leads
	}
	if !ok {
		return api.Id{}, false
	}
	return root, true
}

// checkOf is Check, by the words.
func checkOf(sum, a api.Id, p merkle.Proof) (in, ok bool) {
	if p.Count < 0 || p.Count > 1<<40 {
		return false, false
	}
	if p.Count == 0 {
		return false, len(p.Places) == 0 && wholeOf(0, rootOf(nil)) == sum
	}
	roots := map[api.Id]bool{}
	for _, x := range p.Places {
		root, leads := climbOf(p.Count, x)
		if !leads {
			return false, false
		}
		roots[root] = true
	}
	for root := range roots {
		if len(roots) != 1 || wholeOf(p.Count, root) != sum {
			return false, false
		}
	}
	switch l := p.Places; {
	case len(l) == 1 && l[0].Id == a:
		return true, true
	case len(l) == 1 && l[0].At == 0 && less(a, l[0].Id):
		return false, true
	case len(l) == 1 && l[0].At == p.Count-1 && less(l[0].Id, a):
		return false, true
	case len(l) == 2 && l[1].At == l[0].At+1 && less(l[0].Id, a) && less(a, l[1].Id):
		return false, true
	}
	return false, false
}

// checks holds Check against the words.
func checks(t *testing.T, sum, a api.Id, p merkle.Proof) (in, ok bool) {
	t.Helper()
	in, ok = merkle.Check(sum, a, p)
	if i, o := checkOf(sum, a, p); in != i || ok != o {
		t.Fatalf("%s of %x: %v, %v, not %v, %v", brief(p), a, in, ok, i, o)
	}
	return in, ok
}

// sameProof tells whether two proofs are one.
func sameProof(p, q merkle.Proof) bool {
	return p.Count == q.Count && slices.EqualFunc(p.Places, q.Places, func(x, y merkle.Place) bool {
		return x.Id == y.Id && x.At == y.At && slices.Equal(x.Way, y.Way)
	})
}

// copied is a proof with rows of its own.
func copied(p merkle.Proof) merkle.Proof {
	p.Places = slices.Clone(p.Places)
	for i := range p.Places {
		p.Places[i].Way = slices.Clone(p.Places[i].Way)
	}
	return p
}

// P21.1. The roots and sums of rows of all small sizes, and of some that are about a power of 2.
func TestRoots(t *testing.T) {
	sizes := []int{127, 128, 129, 1000}
	for n := range 70 {
		sizes = append(sizes, n)
	}
	for _, n := range sizes {
		l := row(n)
		root := merkle.Root(l)
		if root != rootOf(l) {
			t.Fatalf("%d: %x", n, root)
		}
		sum, e := merkle.Sum(l)
		if sum != wholeOf(n, root) || merkle.Whole(n, root) != sum || e != api.OK {
			t.Fatalf("%d: %x, %d", n, sum, e)
		}
	}
	if merkle.Root(nil) != merkle.Root([]api.Id{}) || merkle.Root(nil) != api.Id(sha256.Sum256([]byte("\x04none"))) {
		t.Error("the root of none")
	}
	one := api.Id{7: 9}
	item := api.Id(sha256.Sum256([]byte("\x04item" + "\x00\x00\x00\x00\x00\x00\x00\x20" + string(one[:]))))
	if merkle.Root([]api.Id{one}) != item {
		t.Error("the root of one")
	}
	two := string(item[:])
	if merkle.Root([]api.Id{one, one}) != sha256.Sum256([]byte("\x04join"+"\x00\x00\x00\x00\x00\x00\x00\x20"+two+"\x00\x00\x00\x00\x00\x00\x00\x20"+two)) {
		t.Error("the root of two")
	}
}

// P21.1. A set's sum is of how many there are as eight bytes, below 0 as 0, and of the root.
func TestWhole(t *testing.T) {
	root := api.Id{1, 2, 31: 3}
	for count, s := range map[int]string{
		0: "\x00\x00\x00\x00\x00\x00\x00\x00", 1: "\x00\x00\x00\x00\x00\x00\x00\x01", 258: "\x00\x00\x00\x00\x00\x00\x01\x02", -1: "\x00\x00\x00\x00\x00\x00\x00\x00", math.MinInt: "\x00\x00\x00\x00\x00\x00\x00\x00",
		1<<40 + 5: "\x00\x00\x01\x00\x00\x00\x00\x05", math.MaxInt: "\x7f\xff\xff\xff\xff\xff\xff\xff",
	} {
		want := sha256.Sum256([]byte("\x03set" + "\x00\x00\x00\x00\x00\x00\x00\x08" + s + "\x00\x00\x00\x00\x00\x00\x00\x20" + string(root[:])))
		if got := merkle.Whole(count, root); got != want {
			t.Errorf("%d: %x", count, got)
		}
	}
}

// P21.1. Rows that don't rise have no sum, and nothing is proved of them; Root tells something.
func TestOrder(t *testing.T) {
	for n := range 4 * 4 * 4 * 4 * 4 {
		var l []api.Id
		for ; n > 0; n /= 4 {
			if n%4 > 0 {
				l = append(l, name(n%4*8))
			}
		}
		rises := slices.IsSortedFunc(l, func(a, b api.Id) int { return strings.Compare(string(a[:]), string(b[:])) }) && len(slices.Compact(slices.Clone(l))) == len(l)
		want := api.ErrOrder
		if rises {
			want = api.OK
		}
		sum, e := merkle.Sum(l)
		if e != want || (sum == api.Id{}) == rises {
			t.Errorf("%x: %x, %d", l, sum, e)
		}
		for a := range 32 {
			p, e := merkle.Prove(l, name(a))
			if e != want || !rises && !reflect.DeepEqual(p, merkle.Proof{}) {
				t.Errorf("%x of %d: %v, %d", l, a, p, e)
			}
		}
		merkle.Root(l)
	}
}

// P21.1, P21.2. What is proved of rows of all small sizes, for each id in them, between them, ahead and behind: it is as the words say, is checked, and tells the truth.
func TestProofs(t *testing.T) {
	for n := range 35 {
		l := row(n)
		sum, _ := merkle.Sum(l)
		for i := range 2*n + 3 {
			proves(t, l, sum, name(i))
		}
	}
	l := row(1000)
	sum, _ := merkle.Sum(l)
	for _, i := range []int{0, 1, 2, 1023, 1024, 1025, 1998, 1999, 2000} {
		proves(t, l, sum, name(i))
	}
	proves(t, l, sum, api.Id{0: 255, 31: 255})
	proves(t, nil, merkle.Whole(0, merkle.Root(nil)), api.Id{})
}

// proves looks at what is proved of one id.
func proves(t *testing.T, l []api.Id, sum, a api.Id) {
	t.Helper()
	p, e := merkle.Prove(l, a)
	if e != api.OK || !sameProof(p, proofOf(l, a)) {
		t.Fatalf("%x of %d: %s, %d", a, len(l), brief(p), e)
	}
	if in, ok := checks(t, sum, a, p); !ok || in != slices.Contains(l, a) {
		t.Fatalf("%x of %d: %v, %v", a, len(l), in, ok)
	}
	for _, x := range p.Places {
		if root, ok := merkle.Climb(len(l), x); !ok || root != merkle.Root(l) {
			t.Fatalf("%x of %d: %x, %v", a, len(l), root, ok)
		}
	}
	wrong := sum
	wrong[31] ^= 1
	if in, ok := checks(t, wrong, a, p); in || ok {
		t.Fatalf("%x of %d: by another sum", a, len(l))
	}
}

// P21.1. The example: of ids 1, 2, 3 the proof of 3 has one sum, that of 1 has two.
func TestExample(t *testing.T) {
	l := []api.Id{{1}, {2}, {3}}
	for i, n := range []int{2, 2, 1} {
		p, e := merkle.Prove(l, l[i])
		if e != api.OK || p.Count != 3 || len(p.Places) != 1 || p.Places[0].At != i || len(p.Places[0].Way) != n {
			t.Errorf("%v, %d", p, e)
		}
	}
	p, _ := merkle.Prove(l, l[2])
	if p.Places[0].Way[0] != merkle.Root(l[:2]) {
		t.Errorf("%x", p.Places[0].Way)
	}
	p, _ = merkle.Prove(l, l[1])
	if w := p.Places[0].Way; w[0] != merkle.Root(l[:1]) || w[1] != merkle.Root(l[2:]) {
		t.Errorf("%x", w)
	}
}

// changed are proofs that differ from one at one place.
func changed(p merkle.Proof) []merkle.Proof {
	var l []merkle.Proof
	with := func(change func(q *merkle.Proof)) {
		q := copied(p)
		change(&q)
		l = append(l, q)
	}
	for _, n := range []int{0, -1, 1, p.Count - 1, p.Count + 1, 2 * p.Count, -p.Count, 1 << 40, 1<<40 + 1, math.MaxInt, math.MinInt} {
		with(func(q *merkle.Proof) { q.Count = n })
	}
	with(func(q *merkle.Proof) { q.Places = nil })
	with(func(q *merkle.Proof) { q.Places = append(q.Places, merkle.Place{}) })
	with(func(q *merkle.Proof) { slices.Reverse(q.Places) })
	for i, x := range p.Places {
		with(func(q *merkle.Proof) { q.Places = slices.Delete(q.Places, i, i+1) })
		with(func(q *merkle.Proof) { q.Places = append(q.Places, x) })
		for _, at := range []int{x.At - 1, x.At + 1, -1, 0, p.Count - 1, p.Count, math.MinInt, math.MaxInt} {
			with(func(q *merkle.Proof) { q.Places[i].At = at })
		}
		for _, bit := range []int{0, 255} {
			with(func(q *merkle.Proof) { q.Places[i].Id[bit/8] ^= 0x80 >> (bit % 8) })
		}
		with(func(q *merkle.Proof) { q.Places[i].Way = append(q.Places[i].Way, api.Id{}) })
		with(func(q *merkle.Proof) { q.Places[i].Way = append([]api.Id{{}}, q.Places[i].Way...) })
		for k := range x.Way {
			with(func(q *merkle.Proof) { q.Places[i].Way[k][17] ^= 1 })
			with(func(q *merkle.Proof) { q.Places[i].Way = slices.Delete(q.Places[i].Way, k, k+1) })
			with(func(q *merkle.Proof) { q.Places[i].Way[k] = q.Places[i].Way[0] })
		}
	}
	return l
}

// P21.1, P21.2. Proofs that are changed at one place: what is still told to be one tells the truth.
func TestChangedProofs(t *testing.T) {
	told := 0
	for n := range 12 {
		l := row(n)
		sum, _ := merkle.Sum(l)
		for i := range 2*n + 3 {
			a := name(i)
			p, _ := merkle.Prove(l, a)
			for _, q := range changed(p) {
				in, ok := checks(t, sum, a, q)
				if in != (ok && slices.Contains(l, a)) || ok && !sameProof(p, q) {
					t.Fatalf("%s of %x: %v, %v", brief(q), a, in, ok)
				}
				if !ok {
					told++
				}
			}
		}
	}
	if told < 1000 {
		t.Error(told)
	}
}

// P21.1, P21.2. All rows of up to two places of small sets, and some of three, asked for each id: whatever is told to be a proof tells the truth.
func TestAllPlaces(t *testing.T) {
	proofs := map[string]int{}
	for n := range 8 {
		l := row(n)
		sum, _ := merkle.Sum(l)
		var places []merkle.Place
		for i := range l {
			places = append(places, merkle.Place{Id: l[i], At: i, Way: wayOf(l, i)})
		}
		rows := [][]merkle.Place{nil}
		for _, x := range places {
			rows = append(rows, []merkle.Place{x})
			for _, y := range places {
				rows = append(rows, []merkle.Place{x, y}, []merkle.Place{x, y, x}, append(slices.Clone(places), y))
			}
		}
		for _, r := range rows {
			for i := range 2*n + 3 {
				a := name(i)
				in, ok := checks(t, sum, a, merkle.Proof{Count: n, Places: r})
				if in != (ok && slices.Contains(l, a)) {
					t.Fatalf("%s of %x: %v, %v", brief(r), a, in, ok)
				}
				if ok {
					proofs[fmt.Sprint(len(r), in)]++
				}
			}
		}
	}
	if proofs["0 false"] == 0 || proofs["1 true"] < 20 || proofs["1 false"] < 14 || proofs["2 false"] < 20 || len(proofs) != 4 {
		t.Error(proofs)
	}
}

// P21.1. A proof of another set, or by another count, is none; that of an id doesn't prove another one.
func TestOtherSets(t *testing.T) {
	l, m := row(9), row(10)
	sum, _ := merkle.Sum(l)
	for i := range 22 {
		p, _ := merkle.Prove(m, name(i))
		for k := range 22 {
			if in, ok := checks(t, sum, name(k), p); in || ok {
				t.Errorf("%d of %d", i, k)
			}
		}
	}
	none, _ := merkle.Prove(nil, name(3))
	if in, ok := checks(t, sum, name(3), none); in || ok {
		t.Error("the proof of none")
	}
	if in, ok := checks(t, api.Id{}, name(3), merkle.Proof{}); in || ok {
		t.Error("no sum")
	}
}

// P21.1. Where a place leads, of all small counts and about all edges, with ways of all lengths.
func TestClimb(t *testing.T) {
	r := rand.New(rand.NewSource(21))
	way := make([]api.Id, 64)
	for i := range way {
		r.Read(way[i][:])
	}
	leads := 0
	climbs := func(count, at, n int) {
		p := merkle.Place{Id: api.Id{9, 31: 4}, At: at, Way: way[:n]}
		root, ok := merkle.Climb(count, p)
		want, is := climbOf(count, p)
		if root != want || ok != is {
			t.Fatalf("%d of %d by %d: %x, %v", at, count, n, root, ok)
		}
		if ok {
			leads++
		}
	}
	for count := range 20 {
		for at := -1; at <= count+1; at++ {
			for n := range 7 {
				climbs(count, at, n)
			}
		}
	}
	if leads != 19*20/2 {
		t.Error(leads)
	}
	edges := []int{math.MinInt, -1, 0, 1, 1 << 20, 1<<32 - 1, 1 << 32, 1<<39 - 1, 1 << 39, 1<<40 - 1, 1 << 40, 1<<40 + 1, 1<<41 - 1, 1 << 62, math.MaxInt}
	for _, count := range edges {
		for _, at := range append(edges, count-1, count/2) {
			for n := range 64 {
				climbs(count, at, n)
			}
		}
	}
}

// P21.1. A proof may be of 2^40 ids, if it leads to the sum, and not of more.
func TestMostIds(t *testing.T) {
	r := rand.New(rand.NewSource(2140))
	for _, count := range []int{1<<40 - 1, 1 << 40, 1<<40 + 1} {
		for _, at := range []int{0, 1 << 39, count - 1} {
			p := merkle.Place{Id: api.Id{9}, At: at}
			for k, n := at, count; n > 1; { // the partings from the whole down
				p.Way = append(p.Way, api.Id{byte(r.Int())})
				if first := part(n); k < first {
					n = first
				} else {
					k, n = k-first, n-first
				}
			}
			root, ok := merkle.Climb(count, p)
			if ok != (count <= 1<<40) {
				t.Fatalf("%d of %d: %v", at, count, ok)
			}
			sum := merkle.Whole(count, root)
			for _, a := range []api.Id{{8}, {9}, {10}} {
				in, ok := checks(t, sum, a, merkle.Proof{Count: count, Places: []merkle.Place{p}})
				if want := a == p.Id && count <= 1<<40; in != want || want && !ok {
					t.Fatalf("%d of %d: %v, %v", at, count, in, ok)
				}
			}
		}
	}
}

// P21.1. Of rows whose sums are unlike, of rows that are one, and of rows that don't rise, no two texts are told.
func TestNotApart(t *testing.T) {
	rows := [][]api.Id{nil, {}, {{3}, {2}}, {{2}, {2}}, {{1}, {1}, {2}}}
	for n := range 10 {
		rows = append(rows, row(n), row(n + 1)[1:], append(row(n), api.Id{255}))
	}
	for _, l := range rows {
		for _, m := range rows {
			if a, b, ok := merkle.Apart(l, slices.Clone(m)); a != "" || b != "" || ok {
				t.Errorf("%x, %x: %x, %x, %v", l, m, a, b, ok)
			}
		}
	}
}

// roomy is a proof all whose rows have spare room, with something in it.
func roomy(p merkle.Proof) merkle.Proof {
	q := merkle.Proof{Count: p.Count}
	for _, x := range p.Places {
		x.Way = append(slices.Clone(x.Way), api.Id{78})[:len(x.Way)]
		q.Places = append(q.Places, x)
	}
	q.Places = append(q.Places, merkle.Place{At: 78})[:len(p.Places)]
	return q
}

// unspoilt tells whether a proof's spare room is as it was.
func unspoilt(q merkle.Proof) bool {
	for _, x := range q.Places {
		if n := len(x.Way); x.Way[:n+1][n] != (api.Id{78}) {
			return false
		}
	}
	n := len(q.Places)
	return q.Places[:n+1][n].At == 78
}

// P21.1. What is handed in isn't changed, its spare room neither.
func TestMemoryOfArguments(t *testing.T) {
	l := append(make([]api.Id, 0, 16), row(9)...)
	kept := slices.Clone(l[:16])
	sum, _ := merkle.Sum(l)
	for i := range 21 {
		p, _ := merkle.Prove(l, name(i))
		q := roomy(p)
		if _, ok := merkle.Check(sum, name(i), q); !ok || !sameProof(p, q) || !unspoilt(q) {
			t.Fatalf("%s", brief(q))
		}
		for _, x := range q.Places {
			if _, ok := merkle.Climb(9, x); !ok || !sameProof(p, q) || !unspoilt(q) {
				t.Fatalf("%s", brief(q))
			}
		}
	}
	merkle.Root(l[:5])
	merkle.Apart(l, l[:5])
	if !slices.Equal(l[:16], kept) {
		t.Errorf("%x", l[:16])
	}
}

// P21.1. What is told is new memory: no row of a proof shares any with another one, or with what was handed in.
func TestMemoryOfAnswers(t *testing.T) {
	l := row(9)
	for i := range 21 {
		p, _ := merkle.Prove(l, name(i))
		want, other := copied(p), copied(p)
		for k := range p.Places {
			way := p.Places[k].Way
			way = way[:cap(way)]
			for j := range way {
				way[j] = api.Id{99}
			}
			other.Places[k].Way = nil
			p.Places[k].Way = nil
			if !sameProof(p, other) {
				t.Fatalf("%d: %s", i, brief(p))
			}
		}
		if again, _ := merkle.Prove(l, name(i)); !sameProof(again, want) || !slices.Equal(l, row(9)) {
			t.Fatalf("%d: %s", i, brief(again))
		}
	}
}
