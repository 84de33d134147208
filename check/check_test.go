package check_test

import (
	"fmt"
	"math/rand"
	"reflect"
	"slices"
	"strconv"
	"strings"
	"testing"

	"quitclaim/api"
	"quitclaim/check"
	"quitclaim/grant"
	"quitclaim/keytree"
	"quitclaim/patch"
	"quitclaim/signer"
	"quitclaim/state"
	"quitclaim/tree"
)

// par are the params of most patches.
var par = api.Params{Bits: 8, Height: 3}

// brief is the beginning of a value's text.
func brief(v any) string {
	s := fmt.Sprint(v)
	return s[:min(len(s), 300)]
}

// create is a Create.
func create(s string) api.Op { return api.Op{Kind: api.Create, Path: s} }

// give is a Grant.
func give(s string, k api.Id, depth int) api.Op {
	return api.Op{Kind: api.Grant, Path: s, Key: k, Depth: depth}
}

// keys are those of seeds that were asked for already.
var keys = map[string]api.Id{}

// keyOf is a seed's key.
func keyOf(t *testing.T, seed string) api.Id {
	t.Helper()
	if _, known := keys[seed]; !known {
		k, e := keytree.Of(par, seed)
		if e != api.OK {
			t.Fatal(e)
		}
		keys[seed] = k
	}
	return keys[seed]
}

// idOf is a patch's id.
func idOf(t *testing.T, p api.Patch) api.Id {
	t.Helper()
	a, e := patch.Id(p)
	if e != api.OK {
		t.Fatalf("%s: %d", brief(p), e)
	}
	return a
}

// idsOf are patches' ids, as they stand.
func idsOf(t *testing.T, l ...api.Patch) []api.Id {
	t.Helper()
	var ids []api.Id
	for _, p := range l {
		ids = append(ids, idOf(t, p))
	}
	return ids
}

// rising are ids, each once, in the order of their bytes.
func rising(l []api.Id) []api.Id {
	l = slices.Clone(l)
	slices.SortFunc(l, func(a, b api.Id) int { return strings.Compare(string(a[:]), string(b[:])) })
	return slices.Compact(l)
}

// with is a patch that a leaf of a seed's key signed, on top of others.
func with(t *testing.T, p api.Params, seed string, leaf int, note string, below []api.Patch, ops ...api.Op) api.Patch {
	t.Helper()
	s, e := signer.New(p, seed, leaf)
	if e != api.OK {
		t.Fatal(leaf, e)
	}
	x, e := patch.Make(s, idsOf(t, below...), note, ops)
	if e != api.OK {
		t.Fatal(brief(ops), e)
	}
	return x
}

// by is a patch that the first leaf of a seed's key signed, on top of others.
func by(t *testing.T, seed string, below []api.Patch, ops ...api.Op) api.Patch {
	t.Helper()
	return with(t, par, seed, 0, "", below, ops...)
}

// plain is a patch that nobody signed, though it names a key and a leaf.
func plain(key api.Id, leaf int, note string) api.Patch {
	return api.Patch{Key: key, Note: note, Ops: []api.Op{create("a")}, Sign: api.Signature{Leaf: leaf}}
}

// made is the set of patches.
func made(t *testing.T, l ...api.Patch) *state.Set {
	t.Helper()
	s, e := state.New(l)
	if e != api.OK {
		t.Fatalf("%s: %d", brief(l), e)
	}
	return s
}

// mixed are patches in another order.
func mixed(r *rand.Rand, l []api.Patch) []api.Patch {
	l = slices.Clone(l)
	r.Shuffle(len(l), func(i, j int) { l[i], l[j] = l[j], l[i] })
	return l
}

// model is patches by their ids, held against a set.
type model map[api.Id]api.Patch

// modelOf is that of patches.
func modelOf(t *testing.T, l []api.Patch) model {
	t.Helper()
	m := model{}
	for _, p := range l {
		m[idOf(t, p)] = p
	}
	return m
}

// order is the ids, by the words: again and again the least one that isn't in it yet, all of whose deps are.
func (m model) order() []api.Id {
	var ids, l []api.Id
	for a := range m {
		ids = append(ids, a)
	}
	for ids = rising(ids); len(l) < len(m); {
		for _, a := range ids {
			waits := slices.ContainsFunc(m[a].Deps, func(b api.Id) bool { return !slices.Contains(l, b) })
			if !waits && !slices.Contains(l, a) {
				l = append(l, a)
				break
			}
		}
	}
	return l
}

// part is some patches with all on which they hang.
func (m model) part(l []api.Id) model {
	some := model{}
	for _, a := range l {
		some[a] = m[a]
		for b, p := range m.part(m[a].Deps) {
			some[b] = p
		}
	}
	return some
}

// may tells whether a patch may be, by the table of its cone.
func (m model) may(root api.Id, p api.Patch) bool {
	t, cone := grant.New(root), m.part(p.Deps)
	for _, a := range m.order() {
		if _, in := cone[a]; in {
			for _, o := range m[a].Ops {
				t.Apply(m[a].Key, o)
			}
		}
	}
	for _, o := range p.Ops {
		if !t.May(p.Key, o) {
			return false
		}
		t.Apply(p.Key, o)
	}
	return true
}

// wrong is what is wrong with a set, by the words.
func (m model) wrong(p api.Params, root api.Id) (api.Id, api.Errno) {
	bits, height := p.Bits, p.Height
	if bits < 8 || bits > 256 || bits%8 != 0 || height < 0 || height > 10 {
		return api.Id{}, api.ErrArg
	}
	order := m.order()
	for _, a := range order {
		if e := patch.Verify(p, m[a]); e != api.OK {
			return a, e
		}
	}
	for _, a := range order {
		if !m.may(root, m[a]) {
			return a, api.ErrRight
		}
	}
	var t tree.Tree
	for _, a := range order {
		for _, o := range m[a].Ops {
			next, e := t.Apply(o)
			if e != api.OK {
				return a, api.ErrClash
			}
			t = next
		}
	}
	return api.Id{}, api.OK
}

// tells holds what is told of patches, as a row and as a set, against the words.
func tells(t *testing.T, p api.Params, root api.Id, l []api.Patch) (api.Id, api.Errno) {
	t.Helper()
	a, e := modelOf(t, l).wrong(p, root)
	s := made(t, l...)
	if b, f := check.Set(p, root, s); a != b || e != f {
		t.Fatalf("%s by %v: %x, %d, not %x, %d", brief(l), p, b, f, a, e)
	}
	u, b, f := check.Patches(p, root, l)
	if a != b || e != f || (u == nil) == (e == api.OK) {
		t.Fatalf("%s by %v: %v, %x, %d, not %x, %d", brief(l), p, u, b, f, a, e)
	}
	if e == api.OK && !reflect.DeepEqual(u.Order(), s.Order()) {
		t.Fatalf("%s, not %s", brief(u.Order()), brief(s.Order()))
	}
	return a, e
}

// is looks whether patches are told to be so wrong.
func is(t *testing.T, root api.Id, l []api.Patch, a api.Id, want api.Errno) {
	t.Helper()
	if b, e := tells(t, par, root, l); a != b || e != want {
		t.Errorf("%s: %x, %d, not %x, %d", brief(l), b, e, a, want)
	}
}

// spoilt is a patch with a signature in which one thing is wrong; its error, too.
func spoilt(p api.Patch, kind int) (api.Patch, api.Errno) {
	p = patch.Clone(p)
	x := &p.Sign
	switch kind {
	case 0:
		x.Shown[len(x.Shown)-1][31]++
	case 1:
		x.Hidden[0][0]++
	case 2:
		x.Way[0][7]++
	case 3:
		x.Leaf ^= 1
	case 4:
		p.Note += "x"
	case 5:
		p.Key[3]++
	case 6:
		x.Shown = x.Shown[1:]
		return p, api.ErrForm
	case 7:
		x.Hidden = append(x.Hidden, api.Id{})
		return p, api.ErrForm
	case 8:
		x.Way = nil
		return p, api.ErrForm
	case 9:
		x.Leaf += 8
		return p, api.ErrForm
	case 10:
		x.Leaf = 1 << 62
		return p, api.ErrForm
	}
	return p, api.ErrSign
}

// spoils is how many ways there are to spoil a patch.
const spoils = 11

// grown are so many patches by some seeds that hang on one another; some are wrong, but in several sets none is, and in others they clash at most.
func grown(t *testing.T, r *rand.Rand, n int) []api.Patch {
	t.Helper()
	var l []api.Patch
	lenient, clashing, root := r.Intn(3) == 0, r.Intn(2) == 0, keyOf(t, "r")
	for tries := 0; len(l) < n; tries++ {
		var below []api.Patch
		for i, p := range l {
			if r.Intn(4) == 0 || i == len(l)-1 && r.Intn(3) > 0 {
				below = append(below, p)
			}
		}
		var ops []api.Op
		for range 1 + r.Intn(2) {
			s := []string{"a", "b", "c/d", "e"}[r.Intn(4)]
			ops = append(ops, []api.Op{create(s), give(s, keyOf(t, "o"), r.Intn(3)), give("", keyOf(t, "q"), r.Intn(2)), {Kind: api.Edit, Path: s, New: []string{"x"}}, {Kind: api.Revoke, Path: s, Key: keyOf(t, "q")}}[r.Intn(5)])
		}
		p := with(t, par, []string{"r", "r", "r", "o", "q"}[r.Intn(5)], r.Intn(8), strconv.Itoa(r.Intn(1<<30)), below, ops...)
		if r.Intn(12) == 0 {
			p, _ = spoilt(p, r.Intn(spoils))
		}
		all := append(slices.Clone(l), p)
		if _, e := modelOf(t, all).wrong(par, root); e == api.OK || lenient && r.Intn(3) == 0 || clashing && e == api.ErrClash || tries > 60 {
			l = all
		}
	}
	return l
}

// P27.1, P27.2. Sets of patches with all kinds of wrongs, and without, whose patches came in several orders.
func TestSets(t *testing.T) {
	r := rand.New(rand.NewSource(27))
	seen := map[api.Errno]int{}
	for range 300 {
		l := grown(t, r, r.Intn(7))
		for _, root := range []api.Id{keyOf(t, "r"), keyOf(t, "o"), {}} {
			a, e := tells(t, par, root, l)
			seen[e]++
			for range 3 {
				if b, f := tells(t, par, root, mixed(r, l)); a != b || e != f {
					t.Fatalf("%s: %x, %d, not %x, %d", brief(l), b, f, a, e)
				}
			}
		}
	}
	for _, e := range []api.Errno{api.OK, api.ErrSign, api.ErrForm, api.ErrRight, api.ErrClash} {
		if seen[e] < 10 {
			t.Errorf("%d: %d of %v", e, seen[e], seen)
		}
	}
}

// P27.2. What is added to a sound set without harm leaves it sound; with whatever harm, none of its patches is told to be unverified, or not allowed.
func TestAdded(t *testing.T) {
	r := rand.New(rand.NewSource(272))
	root, sound, not := keyOf(t, "r"), 0, 0
	for range 300 {
		l := grown(t, r, 2+r.Intn(6))
		for n := range l {
			old, a, e := check.Patches(par, root, l[:n])
			if e != api.OK {
				not++
				break
			}
			sound++
			all, e := old.With(mixed(r, l[n:]))
			if e != api.OK {
				t.Fatal(e)
			}
			if a, e = check.Set(par, root, all); e != api.OK && e != api.ErrClash && old.Has(a) {
				t.Fatalf("%s and %s: %x, %d", brief(l[:n]), brief(l[n:]), a, e)
			}
			for _, x := range all.Order() {
				if e := patch.Verify(par, x.Patch); old.Has(x.Id) && (e != api.OK || !modelOf(t, l).may(root, x.Patch)) {
					t.Fatalf("%s and %s: %x, %d", brief(l[:n]), brief(l[n:]), x.Id, e)
				}
			}
		}
	}
	if sound < 300 || not < 30 {
		t.Error(sound, not)
	}
}

// P27.1. The example: the empty set is sound, whatever the root is.
func TestEmpty(t *testing.T) {
	for _, root := range []api.Id{{}, {1}, keyOf(t, "r")} {
		is(t, root, nil, api.Id{}, api.OK)
		is(t, root, []api.Patch{}, api.Id{}, api.OK)
	}
	s := made(t)
	if n := check.Leaves(s, api.Id{}); n != 0 {
		t.Error(n)
	}
	if a, b, ok := check.Twice(s); a != (api.Id{}) || b != (api.Id{}) || ok {
		t.Error(a, b, ok)
	}
}

// P27.1. The ways in which a patch isn't verified, each at every place of a row.
func TestUnverified(t *testing.T) {
	root := keyOf(t, "r")
	one := by(t, "r", nil, create("a"))
	two := with(t, par, "r", 7, "two", []api.Patch{one}, create("b"))
	is(t, root, []api.Patch{two, one}, api.Id{}, api.OK)
	for kind := range spoils {
		bad, want := spoilt(one, kind)
		is(t, root, []api.Patch{bad}, idOf(t, bad), want)
		top := with(t, par, "r", 7, "two", []api.Patch{bad}, create("b"))
		is(t, root, []api.Patch{top, bad}, idOf(t, bad), want)
		bad, want = spoilt(two, kind)
		is(t, root, []api.Patch{bad, one}, idOf(t, bad), want)
	}
	bare := plain(root, 0, "")
	is(t, root, []api.Patch{bare}, idOf(t, bare), api.ErrForm)
}

// P27.1. Params that aren't right are told ahead of all that is wrong with a set; patches that make no set, ahead of these.
func TestParams(t *testing.T) {
	root := keyOf(t, "r")
	one := by(t, "r", nil, create("a"))
	bad, _ := spoilt(one, 0)
	rows := [][]api.Patch{nil, {one}, {bad}, {by(t, "o", nil, create("a"))}, {one, with(t, par, "r", 1, "", nil, create("a"))}}
	for bits := -8; bits <= 272; bits++ {
		for _, height := range []int{-1 << 63, -1, 0, 1, 3, 10, 11, 64, 1<<63 - 1} {
			p := api.Params{Bits: bits, Height: height}
			for i, l := range rows {
				_, e := tells(t, p, root, l)
				right := bits >= 8 && bits <= 256 && bits%8 == 0 && height >= 0 && height <= 10
				if want := map[bool]api.Errno{true: api.ErrForm, false: api.ErrArg}[right]; i > 0 && p != par && e != want || !right && e != want {
					t.Fatalf("%v, %d: %d, not %d", p, i, e, want)
				}
			}
		}
	}
	// These params are others than those by which it was signed, but it fits them, too.
	top := with(t, api.Params{Bits: 16, Height: 1}, "r", 0, "", nil, create("a"))
	if a, e := tells(t, api.Params{Bits: 16, Height: 1}, top.Key, []api.Patch{top}); a != (api.Id{}) || e != api.OK {
		t.Error(a, e)
	}
	for _, x := range []struct {
		l []api.Patch
		e api.Errno
	}{
		{[]api.Patch{{}}, api.ErrArg}, {[]api.Patch{one, {Note: strings.Repeat("n", 401)}}, api.ErrLong}, {[]api.Patch{bad, bad}, api.ErrSame}, {[]api.Patch{bad, with(t, par, "r", 1, "", []api.Patch{one}, create("b"))}, api.ErrDeps}, {[]api.Patch{bad, plain(root, -1, "")}, api.ErrForm},
	} {
		for _, p := range []api.Params{par, {}, {Bits: 7}} {
			if s, a, e := check.Patches(p, root, x.l); s != nil || a != (api.Id{}) || e != x.e {
				t.Errorf("%s: %v, %x, %d, not %d", brief(x.l), s, a, e, x.e)
			}
		}
	}
}

// P27.1. Of several wrongs the one that is named first, wherever its patch stands: all are verified ahead of asking which ones may be, and all may be ahead of a clash.
func TestKinds(t *testing.T) {
	root := keyOf(t, "r")
	kinds := []api.Errno{api.ErrSign, api.ErrForm, api.ErrRight, api.ErrClash}
	for n := range 256 {
		var l []api.Patch
		var row []api.Errno
		for i := range 4 {
			kind, path := kinds[n>>(2*i)&3], "p"+strconv.Itoa(i)
			var p api.Patch
			switch below := l[max(i-1, 0):]; kind {
			case api.ErrSign:
				p, _ = spoilt(with(t, par, "r", i, "", below, create(path)), 0)
			case api.ErrForm:
				p, _ = spoilt(with(t, par, "r", i, "", below, create(path)), 8)
			case api.ErrRight:
				p = with(t, par, "o", i, "", below, create(path))
			case api.ErrClash:
				p = with(t, par, "r", i, "", below, api.Op{Kind: api.Remove, Path: path})
			}
			l, row = append(l, p), append(row, kind)
		}
		first := slices.IndexFunc(row, func(e api.Errno) bool { return e == api.ErrSign || e == api.ErrForm })
		for _, e := range kinds[2:] {
			if first < 0 {
				first = slices.Index(row, e)
			}
		}
		is(t, root, l, idOf(t, l[first]), row[first])
	}
}

// P27.1. Of several patches with one wrong the first one in the set's order, which isn't that of the row.
func TestFirst(t *testing.T) {
	root := keyOf(t, "r")
	for _, make := range []func(i int) api.Patch{
		func(i int) api.Patch {
			p, _ := spoilt(with(t, par, "r", i, "", nil, create("p"+strconv.Itoa(i))), 0)
			return p
		},
		func(i int) api.Patch { return with(t, par, "o", i, "", nil, create("p"+strconv.Itoa(i))) },
		func(i int) api.Patch {
			return with(t, par, "r", i, "", nil, api.Op{Kind: api.Remove, Path: "p" + strconv.Itoa(i)})
		},
	} {
		var l []api.Patch
		for i := range 8 {
			l = append(l, make(i))
		}
		least := rising(idsOf(t, l...))[0]
		_, e := tells(t, par, root, l[:1])
		is(t, root, l, least, e)
		slices.Reverse(l)
		is(t, root, l, least, e)
	}
}

// P27.1. What is granted counts from where a patch hangs on it; by another root nothing may be.
func TestRights(t *testing.T) {
	root := keyOf(t, "r")
	one := by(t, "r", nil, give("lib", keyOf(t, "o"), 0))
	two := by(t, "o", []api.Patch{one}, create("lib/x"))
	beside := by(t, "o", nil, create("lib/y"))
	beyond := by(t, "o", []api.Patch{one}, create("x"))
	is(t, root, []api.Patch{two, one}, api.Id{}, api.OK)
	is(t, root, []api.Patch{two, one, beside}, idOf(t, beside), api.ErrRight)
	is(t, root, []api.Patch{beyond, one}, idOf(t, beyond), api.ErrRight)
	is(t, keyOf(t, "o"), []api.Patch{two, one}, idOf(t, one), api.ErrRight)
	is(t, api.Id{}, []api.Patch{one}, idOf(t, one), api.ErrRight)
}

// P27.1. The second operation of a patch, too, may be one that may not be done, or that clashes.
func TestWithinPatch(t *testing.T) {
	root := keyOf(t, "r")
	one := by(t, "r", nil, give("lib", keyOf(t, "o"), 0), create("lib/x"))
	for _, x := range []struct {
		ops  []api.Op
		want api.Errno
	}{
		{[]api.Op{create("lib/y"), create("y")}, api.ErrRight}, {[]api.Op{create("lib/y"), create("lib/x")}, api.ErrClash}, {[]api.Op{create("lib/x"), create("y")}, api.ErrRight}, {[]api.Op{create("lib/y"), {Kind: api.Remove, Path: "lib/y"}, create("lib/z")}, api.OK},
	} {
		two, a := by(t, "o", []api.Patch{one}, x.ops...), api.Id{}
		if x.want != api.OK {
			a = idOf(t, two)
		}
		is(t, root, []api.Patch{one, two}, a, x.want)
	}
}

// P27.1. A set of as many patches as may be is sound; with one more they are none.
func TestFull(t *testing.T) {
	p, root := api.Params{Bits: 8, Height: 10}, api.Id{}
	s, e := signer.New(p, "r", 0)
	if e != api.OK {
		t.Fatal(e)
	}
	root = s.Key()
	var l []api.Patch
	var below []api.Id
	for i := range 1001 {
		x, e := patch.Make(s, below, "", []api.Op{{Kind: []int{api.Create, api.Remove}[i%2], Path: "a"}})
		if e != api.OK {
			t.Fatal(e)
		}
		l, below = append(l, x), idsOf(t, x)
	}
	u, a, e := check.Patches(p, root, l[:1000])
	if e != api.OK || a != (api.Id{}) || u.Len() != 1000 || check.Leaves(u, root) != 1000 {
		t.Errorf("%x, %d", a, e)
	}
	if _, _, ok := check.Twice(u); ok {
		t.Error("no leaf signed twice")
	}
	if u, a, e := check.Patches(p, root, l); u != nil || a != (api.Id{}) || e != api.ErrFull {
		t.Errorf("%x, %d", a, e)
	}
	l[999], _ = spoilt(l[999], 0)
	if u, a, e := check.Patches(p, root, l[:1000]); u != nil || a != idOf(t, l[999]) || e != api.ErrSign {
		t.Errorf("%x, %d", a, e)
	}
}

// P27.1. The greatest leaf of a key that is looked at, and 1; patches of other keys, and leaves that are too great, count nothing.
func TestLeaves(t *testing.T) {
	const most = 1 << 40
	k, o := api.Id{1}, api.Id{31: 1}
	for _, x := range []struct {
		of, beside []int
		want       int
	}{
		{nil, nil, 0}, {nil, []int{0, 5, most}, 0}, {[]int{0}, nil, 1}, {[]int{0}, []int{9}, 1}, {[]int{3, 0, 2}, []int{7}, 4}, {[]int{1023}, nil, 1024}, {[]int{1 << 20}, nil, 1<<20 + 1},
		{[]int{most}, nil, most + 1}, {[]int{most - 1}, nil, most}, {[]int{most + 1}, nil, 0}, {[]int{most + 1, 4, most + 2}, nil, 5}, {[]int{1 << 62, 4}, []int{5}, 5}, {[]int{1 << 62, most, 0}, nil, most + 1}, {[]int{2, 2, 2}, nil, 3},
	} {
		var l []api.Patch
		for i, leaf := range x.of {
			l = append(l, plain(k, leaf, strconv.Itoa(i)))
		}
		for i, leaf := range x.beside {
			l = append(l, plain(o, leaf, strconv.Itoa(i)))
		}
		for range 2 {
			s := made(t, l...)
			if n := check.Leaves(s, k); n != x.want {
				t.Errorf("%v, %v: %d", x.of, x.beside, n)
			}
			if n := check.Leaves(s, api.Id{2}); n != 0 {
				t.Errorf("%v: %d of a key that isn't there", x.of, n)
			}
			slices.Reverse(l)
		}
	}
	s := made(t, with(t, par, "r", 5, "", nil, create("a")), with(t, par, "o", 7, "", nil, create("a")))
	for seed, want := range map[string]int{"r": 6, "o": 8, "q": 0} {
		if n := check.Leaves(s, keyOf(t, seed)); n != want {
			t.Errorf("%s: %d", seed, n)
		}
	}
}

// twice are the two patches of one key and leaf, by the words: of all such pairs that whose last one is first, and of these that whose first one is.
func (m model) twice() (a, b api.Id, ok bool) {
	order := m.order()
	for j, b := range order {
		for _, a := range order[:j] {
			p, q := m[a], m[b]
			x, _ := patch.Sum(p)
			y, _ := patch.Sum(q)
			if p.Key == q.Key && p.Sign.Leaf == q.Sign.Leaf && x != y {
				return a, b, true
			}
		}
	}
	return api.Id{}, api.Id{}, false
}

// doubled holds which two patches are told to be by one leaf against the words.
func doubled(t *testing.T, l []api.Patch) bool {
	t.Helper()
	a, b, ok := modelOf(t, l).twice()
	if x, y, told := check.Twice(made(t, l...)); x != a || y != b || told != ok {
		t.Fatalf("%s: %x, %x, %v, not %x, %x, %v", brief(l), x, y, told, a, b, ok)
	}
	return ok
}

// P27.1. Two patches that one leaf of one key signed, among others, in sets that hang together in all ways; patches of one sum, whose signatures alone are unlike, are none.
func TestTwice(t *testing.T) {
	r := rand.New(rand.NewSource(271))
	some, none := 0, 0
	for range 2000 {
		var l []api.Patch
		known := map[api.Id]bool{}
		for range r.Intn(7) {
			p := plain(api.Id{byte(r.Intn(2))}, []int{0, 1, 2, 1 << 40, 1<<40 + 1, 1 << 62}[r.Intn(6)], strconv.Itoa(r.Intn(4)))
			for i := range r.Intn(3) {
				p.Sign.Way = append(p.Sign.Way, api.Id{byte(i)})
			}
			if len(l) > 0 && r.Intn(2) == 0 {
				p.Deps = idsOf(t, l[r.Intn(len(l))])
			}
			if a := idOf(t, p); !known[a] {
				known[a], l = true, append(l, p)
			}
		}
		if doubled(t, l) {
			some++
		} else {
			none++
		}
		doubled(t, mixed(r, l))
	}
	if some < 300 || none < 300 {
		t.Error(some, none)
	}
}

// P27.1. One leaf that signed three: the second one with the first one; of two leaves the one whose second one is ahead.
func TestTwiceFirst(t *testing.T) {
	k := api.Id{1}
	var l []api.Patch
	for i, leaf := range []int{3, 5, 5, 3, 3, 5} {
		p := plain(k, leaf, strconv.Itoa(i))
		p.Deps = idsOf(t, l[max(i-1, 0):]...)
		l = append(l, p)
	}
	for _, x := range []struct{ from, to, a, b int }{{0, 6, 1, 2}, {0, 3, 1, 2}, {2, 6, 3, 4}, {3, 6, 3, 4}} {
		part := []api.Patch{}
		for i, p := range l[x.from:x.to] {
			p.Deps = idsOf(t, part[max(i-1, 0):]...)
			part = append(part, p)
		}
		a, b, ok := check.Twice(made(t, part...))
		if a != idOf(t, part[x.a-x.from]) || b != idOf(t, part[x.b-x.from]) || !ok {
			t.Errorf("%v: %x, %x, %v", x, a, b, ok)
		}
		slices.Reverse(part)
		doubled(t, part)
	}
	// One body, signed twice by one leaf, is no harm, also where another key has that leaf; with another body behind them it is the first of both that is told.
	one, two := plain(k, 4, ""), plain(k, 4, "")
	two.Sign.Way = []api.Id{{1}}
	for _, other := range []api.Patch{plain(api.Id{2}, 4, "x"), plain(k, 3, "x")} {
		if doubled(t, []api.Patch{one, two, other}) {
			t.Error(brief(other))
		}
	}
	both := rising(idsOf(t, one, two))
	three := plain(k, 4, "x")
	three.Deps = both
	if a, b, ok := check.Twice(made(t, one, two, three)); a != both[0] || b != idOf(t, three) || !ok {
		t.Errorf("%x, %x, %v", a, b, ok)
	}
}

// roomy are two patches that are sound, the second one on top of the first, whose rows have spare room.
func roomy(t *testing.T) []api.Patch {
	t.Helper()
	l := []api.Patch{by(t, "r", nil, create("a"), api.Op{Kind: api.Edit, Path: "a", New: []string{"x"}})}
	l = append(make([]api.Patch, 0, 8), with(t, par, "r", 1, "", l, create("b")), l[0])
	for i, p := range l {
		l[i].Deps = slices.Grow(p.Deps, 4)
		l[i].Ops = slices.Grow(p.Ops, 4)
		l[i].Sign.Shown, l[i].Sign.Hidden, l[i].Sign.Way = slices.Grow(p.Sign.Shown, 4), slices.Grow(p.Sign.Hidden, 4), slices.Grow(p.Sign.Way, 4)
	}
	return l
}

// spoil changes all rows of a patch, their spare room too.
func spoil(p api.Patch) {
	for _, l := range [][]api.Id{p.Deps, p.Sign.Shown, p.Sign.Hidden, p.Sign.Way} {
		for i := range l[:cap(l)] {
			l[:cap(l)][i] = api.Id{0: 99, 5: byte(i)}
		}
	}
	for i := range p.Ops[:cap(p.Ops)] {
		o := &p.Ops[:cap(p.Ops)][i]
		for k := range o.New {
			o.New[k] = "spoilt"
		}
		*o = api.Op{Kind: 9}
	}
}

// P27.1. What is handed in is neither changed nor kept, its spare room neither; a set that is looked at stays as it was.
func TestMemory(t *testing.T) {
	l, m, root := roomy(t), modelOf(t, roomy(t)), keyOf(t, "r")
	s, _, e := check.Patches(par, root, l)
	if e != api.OK || !reflect.DeepEqual(l[:8], roomy(t)[:8]) {
		t.Fatal(e)
	}
	for i, p := range roomy(t) {
		if !reflect.DeepEqual(l[i].Deps[:cap(p.Deps)], p.Deps[:cap(p.Deps)]) || !reflect.DeepEqual(l[i].Ops[:cap(p.Ops)], p.Ops[:cap(p.Ops)]) || !reflect.DeepEqual(l[i].Sign.Way[:cap(p.Sign.Way)], p.Sign.Way[:cap(p.Sign.Way)]) {
			t.Errorf("%s", brief(l[i]))
		}
	}
	for _, p := range l {
		spoil(p)
	}
	clear(l[:8])
	for range 2 {
		for _, x := range s.Order() {
			if p, in := m[x.Id]; !in || !patch.Same(p, x.Patch) {
				t.Errorf("%s", brief(x))
			}
		}
		if a, e := check.Set(par, root, s); a != (api.Id{}) || e != api.OK || s.Len() != 2 {
			t.Error(a, e)
		}
		if n := check.Leaves(s, root); n != 2 {
			t.Error(n)
		}
		if _, _, ok := check.Twice(s); ok {
			t.Error("no leaf signed twice")
		}
		check.Set(par, api.Id{}, s)
		check.Set(api.Params{}, root, s)
	}
}
