package authz_test

import (
	"fmt"
	"math/rand"
	"reflect"
	"slices"
	"strconv"
	"strings"
	"testing"

	"quitclaim/api"
	"quitclaim/authz"
	"quitclaim/grant"
	"quitclaim/patch"
	"quitclaim/signer"
	"quitclaim/state"
)

// The keys of most patches; root is the root key of most sets.
var (
	root  = api.Id{5}
	ann   = api.Id{4}
	bob   = api.Id{6}
	other = api.Id{31: 1}
)

// brief is the beginning of a value's text.
func brief(v any) string {
	s := fmt.Sprint(v)
	return s[:min(len(s), 300)]
}

// give is a Grant.
func give(s string, k api.Id, depth int) api.Op {
	return api.Op{Kind: api.Grant, Path: s, Key: k, Depth: depth}
}

// take is a Revoke.
func take(s string, k api.Id) api.Op { return api.Op{Kind: api.Revoke, Path: s, Key: k} }

// create is a Create.
func create(s string) api.Op { return api.Op{Kind: api.Create, Path: s} }

// idOf is a patch's id.
func idOf(t *testing.T, p api.Patch) api.Id {
	t.Helper()
	a, e := patch.Id(p)
	if e != api.OK {
		t.Fatalf("%s: %d", brief(p), e)
	}
	return a
}

// idsOf are patches' ids, as they stand.
func idsOf(t *testing.T, l ...api.Patch) []api.Id {
	t.Helper()
	var ids []api.Id
	for _, p := range l {
		ids = append(ids, idOf(t, p))
	}
	return ids
}

// rising are ids, each once, in the order of their bytes.
func rising(l []api.Id) []api.Id {
	l = slices.Clone(l)
	slices.SortFunc(l, func(a, b api.Id) int { return strings.Compare(string(a[:]), string(b[:])) })
	return slices.Compact(l)
}

// by is a patch by a key, on top of others.
func by(t *testing.T, k api.Id, below []api.Patch, ops ...api.Op) api.Patch {
	t.Helper()
	return api.Patch{Deps: rising(idsOf(t, below...)), Key: k, Ops: ops}
}

// made is the set of patches.
func made(t *testing.T, l ...api.Patch) *state.Set {
	t.Helper()
	s, e := state.New(l)
	if e != api.OK {
		t.Fatalf("%s: %d", brief(l), e)
	}
	return s
}

// model is patches by their ids, held against a set.
type model map[api.Id]api.Patch

// modelOf is that of patches.
func modelOf(t *testing.T, l []api.Patch) model {
	t.Helper()
	m := model{}
	for _, p := range l {
		m[idOf(t, p)] = p
	}
	return m
}

// order is the ids, by the words: again and again the least one that isn't in it yet, all of whose deps are.
func (m model) order() []api.Id {
	var ids, l []api.Id
	for a := range m {
		ids = append(ids, a)
	}
	for ids = rising(ids); len(l) < len(m); {
		for _, a := range ids {
			waits := slices.ContainsFunc(m[a].Deps, func(b api.Id) bool { return !slices.Contains(l, b) })
			if !waits && !slices.Contains(l, a) {
				l = append(l, a)
				break
			}
		}
	}
	return l
}

// part is some patches with all on which they hang.
func (m model) part(l []api.Id) model {
	some := model{}
	for _, a := range l {
		some[a] = m[a]
		for b, p := range m.part(m[a].Deps) {
			some[b] = p
		}
	}
	return some
}

// patches are all, in some order.
func (m model) patches() []api.Patch {
	var l []api.Patch
	for _, p := range m {
		l = append(l, p)
	}
	return l
}

// table is that of some patches and their cones, by the words, in the whole set's order.
func (m model) table(k api.Id, l []api.Id) *grant.Table {
	t, some := grant.New(k), m.part(l)
	for _, a := range m.order() {
		if _, ok := some[a]; !ok {
			continue
		}
		for _, o := range m[a].Ops {
			if o.Kind == api.Grant || o.Kind == api.Revoke {
				t.Apply(m[a].Key, o)
			}
		}
	}
	return t
}

// may tells whether a patch may be, by the words.
func (m model) may(k api.Id, p api.Patch) (int, api.Errno) {
	t := m.table(k, p.Deps)
	for i, o := range p.Ops {
		if !t.May(p.Key, o) {
			return i, api.ErrRight
		}
		if o.Kind == api.Grant || o.Kind == api.Revoke {
			t.Apply(p.Key, o)
		}
	}
	return len(p.Ops), api.OK
}

// all is the first patch that may not be, by the words.
func (m model) all(k api.Id) (api.Id, int, api.Errno) {
	for _, a := range m.order() {
		if i, e := m.may(k, m[a]); e != api.OK {
			return a, i, e
		}
	}
	return api.Id{}, 0, api.OK
}

// sameTable holds two tables against each other, by all that they tell.
func sameTable(t *testing.T, got, want *grant.Table) {
	t.Helper()
	if got == nil || got.Root() != want.Root() || !slices.Equal(got.Grants(), want.Grants()) {
		t.Fatalf("%s, not %s", brief(got), brief(want))
	}
}

// looks holds what is told of a set, by a root key, against a model.
func looks(t *testing.T, s *state.Set, k api.Id, m model) (wrong api.Errno) {
	t.Helper()
	var ids []api.Id
	for a := range m {
		ids = append(ids, a)
	}
	sameTable(t, authz.Now(s, k), m.table(k, ids))
	a, i, e := authz.All(s, k)
	if b, j, f := m.all(k); a != b || i != j || e != f {
		t.Fatalf("%s by %x: %x, %d, %d, not %x, %d, %d", brief(m), k, a, i, e, b, j, f)
	}
	return e
}

// table holds the table of some patches of a set against a model.
func table(t *testing.T, s *state.Set, k api.Id, m model, l []api.Id) {
	t.Helper()
	x, e := authz.Table(s, k, l)
	if e != api.OK {
		t.Fatalf("%x: %d", l, e)
	}
	sameTable(t, x, m.table(k, l))
}

// may holds whether a patch may be on top of a set against a model, and against the set of its cone alone.
func may(t *testing.T, s *state.Set, k api.Id, m model, p api.Patch) (int, api.Errno) {
	t.Helper()
	i, e := authz.May(s, k, p)
	if j, f := m.may(k, p); i != j || e != f {
		t.Fatalf("%s by %x on %s: %d, %d, not %d, %d", brief(p), k, brief(m), i, e, j, f)
	}
	cone := made(t, m.part(p.Deps).patches()...)
	if j, f := authz.May(cone, k, p); i != j || e != f {
		t.Fatalf("%s by %x on its cone: %d, %d, not %d, %d", brief(p), k, j, f, i, e)
	}
	return i, e
}

// pool are operations that often may be done, and often may not.
func pool(r *rand.Rand) api.Op {
	keys := []api.Id{root, ann, ann, bob, bob, other}
	paths := []string{"a", "a", "a/b", "ab", "c", "a/b/c"}
	k, s, to := keys[r.Intn(len(keys))], paths[r.Intn(len(paths))], paths[r.Intn(len(paths))]
	prefix := append(paths, "", "")[r.Intn(len(paths)+2)]
	switch r.Intn(10) {
	case 0, 1, 2, 3:
		return give(prefix, k, []int{0, 1, 2, 3, 8}[r.Intn(5)])
	case 4, 5:
		return take(prefix, k)
	case 6:
		return api.Op{Kind: api.Remove, Path: s}
	case 7:
		return api.Op{Kind: api.Edit, Path: s, New: []string{"x"}}
	case 8:
		if s != to {
			return api.Op{Kind: api.Move, Path: s, To: to}
		}
	}
	return create(s)
}

// some is a patch by some key, on top of some others; the last of these more often than not.
func some(t *testing.T, r *rand.Rand, l []api.Patch) api.Patch {
	t.Helper()
	var below []api.Patch
	for i, p := range l {
		if r.Intn(4) == 0 || i == len(l)-1 && r.Intn(3) > 0 {
			below = append(below, p)
		}
	}
	var ops []api.Op
	for range 1 + r.Intn(3) {
		ops = append(ops, pool(r))
	}
	p := by(t, []api.Id{root, root, root, ann, bob, other}[r.Intn(6)], below, ops...)
	p.Note = strconv.Itoa(r.Intn(1 << 30))
	return p
}

// grown are so many patches that hang on one another; of some sets all patches may be, but for chance ones.
func grown(t *testing.T, r *rand.Rand, n int) []api.Patch {
	t.Helper()
	var l []api.Patch
	lenient := r.Intn(3) == 0
	for tries := 0; len(l) < n; tries++ {
		p := some(t, r, l)
		if _, e := modelOf(t, l).may(root, p); e == api.OK || lenient || tries > 50 {
			l = append(l, p)
		}
	}
	return l
}

// P20.1, P20.2. Sets of patches that hang on one another in all ways: the table of each part of them, what may be on top, what may not be in them.
func TestSets(t *testing.T) {
	r := rand.New(rand.NewSource(20))
	sound, not, mays := 0, 0, map[string]int{}
	for range 400 {
		l := grown(t, r, r.Intn(8))
		m := modelOf(t, l)
		r.Shuffle(len(l), func(i, j int) { l[i], l[j] = l[j], l[i] })
		s := made(t, l...)
		for _, k := range []api.Id{root, ann, {9}} {
			if e := looks(t, s, k, m); e == api.OK {
				sound++
			} else {
				not++
			}
		}
		ids := idsOf(t, l...)
		for bits := range 1 << len(ids) {
			part := slices.DeleteFunc(slices.Clone(ids), func(a api.Id) bool { return bits>>slices.Index(ids, a)&1 == 0 })
			table(t, s, root, m, append(part, part...))
		}
		for range 8 {
			l = append(l, some(t, r, l[:len(m)]))
		}
		for _, p := range l {
			for _, k := range []api.Id{root, bob} {
				i, e := may(t, s, k, m, p)
				mays[strconv.Itoa(i)+" "+strconv.Itoa(int(e))]++
			}
		}
		looks(t, s, root, m)
	}
	for _, x := range []string{"1 0", "2 0", "3 0", "0 10", "1 10", "2 10"} {
		if mays[x] < 100 {
			t.Errorf("%s: %v", x, mays)
		}
	}
	if sound < 200 || not < 200 {
		t.Error(sound, not)
	}
}

// P20.2. What is put into a set beside a patch's cone changes nothing for it: a key that is taken back there may still do what it might, and one that is granted there may not.
func TestConeAlone(t *testing.T) {
	r := rand.New(rand.NewSource(202))
	for range 200 {
		l := grown(t, r, 1+r.Intn(5))
		s, u := made(t, l...), made(t, l...)
		for range 4 {
			more := append(slices.Clone(u.Patches()), some(t, r, u.Patches()))
			u = made(t, more...)
		}
		for _, k := range []api.Id{root, ann} {
			for _, p := range append(slices.Clone(l), some(t, r, l), some(t, r, l)) {
				i, e := authz.May(s, k, p)
				if j, f := authz.May(u, k, p); i != j || e != f {
					t.Fatalf("%s: %d, %d, then %d, %d", brief(p), i, e, j, f)
				}
				x, _ := authz.Table(s, k, p.Deps)
				y, e := authz.Table(u, k, p.Deps)
				if e != api.OK {
					t.Fatal(e)
				}
				sameTable(t, y, x)
			}
		}
	}
	first := by(t, root, nil, give("lib", ann, 1))
	gone := by(t, root, []api.Patch{first}, take("", ann))
	more := by(t, root, []api.Patch{first}, give("", bob, 8))
	s := made(t, gone, first, more)
	for _, x := range []struct {
		k     api.Id
		below []api.Patch
		want  api.Errno
	}{
		{ann, []api.Patch{first}, api.OK}, {ann, []api.Patch{gone}, api.ErrRight}, {ann, []api.Patch{more}, api.OK}, {ann, []api.Patch{gone, more}, api.ErrRight}, {ann, nil, api.ErrRight},
		{bob, []api.Patch{first}, api.ErrRight}, {bob, []api.Patch{gone}, api.ErrRight}, {bob, []api.Patch{more}, api.OK}, {bob, []api.Patch{gone, more}, api.OK}, {bob, nil, api.ErrRight},
	} {
		if n, e := authz.May(s, root, by(t, x.k, x.below, create("lib/f"))); e != x.want || n != map[api.Errno]int{api.OK: 1}[e] {
			t.Errorf("%x on %d: %d, %d", x.k, len(x.below), n, e)
		}
	}
	if l := authz.Now(s, root).Grants(); len(l) != 1 || l[0].Key != bob {
		t.Errorf("%v", l)
	}
}

// P20.1, P20.2. Of a set all whose patches but one may be that one is told, though it might be done by the table of all; and one that might not by that table is told to be in order.
func TestAllByCones(t *testing.T) {
	r := rand.New(rand.NewSource(201))
	leaks, holds := 0, 0
	for leaks < 50 || holds < 50 {
		var l []api.Patch
		for len(l) < 6 {
			p := some(t, r, l[:r.Intn(len(l)+1)])
			if _, e := modelOf(t, l).may(root, p); e == api.OK {
				l = append(l, p)
			}
		}
		p := some(t, r, l[:r.Intn(3)])
		m, all := modelOf(t, l), p
		all.Deps = rising(idsOf(t, l...))
		i, e := m.may(root, p)
		_, would := m.may(root, all)
		s := made(t, append(l, p)...)
		switch a, k, f := authz.All(s, root); {
		case e == would:
		case e == api.OK:
			holds++
			if a != (api.Id{}) || k != 0 || f != api.OK {
				t.Fatalf("%s on %s: %x, %d, %d", brief(p), brief(l), a, k, f)
			}
		default:
			leaks++
			if a != idOf(t, p) || k != i || f != api.ErrRight {
				t.Fatalf("%s on %s: %x, %d, %d", brief(p), brief(l), a, k, f)
			}
		}
	}
}

// P20.1. The example: who was granted nothing may not create a file; the root may.
func TestExample(t *testing.T) {
	s := made(t)
	if n, e := authz.May(s, root, by(t, root, nil, create("a"))); n != 1 || e != api.OK {
		t.Error(n, e)
	}
	if n, e := authz.May(s, root, by(t, ann, nil, create("a"))); n != 0 || e != api.ErrRight {
		t.Error(n, e)
	}
}

// P20.1. Without patches all may be, and nothing is granted.
func TestEmpty(t *testing.T) {
	s := made(t)
	for _, k := range []api.Id{root, {}} {
		if a, i, e := authz.All(s, k); a != (api.Id{}) || i != 0 || e != api.OK {
			t.Error(a, i, e)
		}
		for _, none := range [][]api.Id{nil, {}} {
			x, e := authz.Table(s, k, none)
			if e != api.OK {
				t.Fatal(e)
			}
			sameTable(t, x, grant.New(k))
		}
		sameTable(t, authz.Now(s, k), grant.New(k))
	}
}

// P20.1. Operations of one patch are done one behind the other: what one of them grants or takes back, the next one has or lacks.
func TestWithinPatch(t *testing.T) {
	base := by(t, root, nil, give("lib", ann, 2), give("x", ann, 0))
	below := []api.Patch{base}
	s := made(t, base)
	for _, x := range []struct {
		k    api.Id
		ops  []api.Op
		n    int
		want api.Errno
	}{
		{ann, []api.Op{create("lib/f"), give("lib", bob, 1), create("x"), take("lib", bob)}, 4, api.OK},
		{ann, []api.Op{give("lib", bob, 1), give("lib", bob, 1)}, 1, api.ErrRight},
		{ann, []api.Op{give("lib", bob, 1), take("lib", bob), give("lib", bob, 1), create("lib/f")}, 4, api.OK},
		{ann, []api.Op{give("lib", bob, 1), take("lib", bob), take("lib", bob)}, 2, api.ErrRight},
		{ann, []api.Op{create("lib/f"), take("lib", ann), create("lib/g")}, 2, api.ErrRight},
		{ann, []api.Op{create("lib/f"), take("lib/f", ann), create("x"), create("lib/g")}, 1, api.ErrRight},
		{ann, []api.Op{take("lib", ann), create("x"), create("y")}, 2, api.ErrRight},
		{ann, []api.Op{give("x", bob, 0)}, 0, api.ErrRight},
		{ann, []api.Op{give("lib", bob, 2)}, 0, api.ErrRight},
		{ann, []api.Op{give("lib", root, 1)}, 0, api.ErrRight},
		{ann, []api.Op{take("lib", root)}, 0, api.ErrRight},
		{ann, []api.Op{{Kind: api.Move, Path: "lib/f", To: "x/f"}, {Kind: api.Move, Path: "lib/f", To: "li"}}, 1, api.ErrRight},
		{ann, []api.Op{create("lib/f"), create("libx"), create("q")}, 1, api.ErrRight},
		{bob, []api.Op{create("lib/f"), create("lib/f")}, 0, api.ErrRight},
		{root, []api.Op{give("", root, 0), create("f")}, 0, api.ErrRight},
		{root, []api.Op{give("", bob, 8), take("", bob), take("", ann), create("f"), take("", ann)}, 4, api.ErrRight},
		{root, slices.Repeat([]api.Op{create("f")}, 32), 32, api.OK},
	} {
		p := by(t, x.k, below, x.ops...)
		if n, e := authz.May(s, root, p); n != x.n || e != x.want {
			t.Errorf("%s: %d, %d, not %d, %d", brief(p), n, e, x.n, x.want)
		}
		if m, n := modelOf(t, []api.Patch{base, p}), made(t, base, p); looks(t, n, root, m) != x.want {
			t.Errorf("%s is in a set", brief(p))
		}
	}
}

// P20.1. In a table what has an error changes nothing, and what stands behind it in its patch is applied all the same; what isn't policy counts nothing.
func TestTableErrors(t *testing.T) {
	none := by(t, bob, nil, give("lib", bob, 8), take("", ann), create("f"))
	mixed := by(t, root, nil, create("f"), give("lib", ann, 1), give("lib", ann, 1), take("", bob), give("", root, 3), api.Op{Kind: api.Remove, Path: "nothing"}, give("x", bob, 0))
	last := by(t, ann, []api.Patch{mixed}, give("lib", other, 1), give("x", other, 0), give("lib/y", other, 0))
	s := made(t, none, mixed, last)
	want := []grant.Grant{{Prefix: "lib", Key: ann, By: root, Depth: 1}, {Prefix: "lib/y", Key: other, By: ann}, {Prefix: "x", Key: bob, By: root}}
	if l := authz.Now(s, root).Grants(); !slices.Equal(l, want) {
		t.Errorf("%v", l)
	}
	x, e := authz.Table(s, root, idsOf(t, none))
	if e != api.OK || len(x.Grants()) != 0 {
		t.Error(e)
	}
	x, e = authz.Table(s, bob, idsOf(t, mixed, none))
	if l := x.Grants(); e != api.OK || len(l) != 0 {
		t.Errorf("%v, %d", l, e)
	}
	looks(t, s, root, modelOf(t, []api.Patch{none, mixed, last}))
}

// P20.1. Of patches side by side the table hangs on the set's order: the one with the lesser id is first.
func TestOrder(t *testing.T) {
	for i := range 30 {
		base := by(t, root, nil, give("lib", ann, 1))
		gone, more := by(t, root, []api.Patch{base}, take("", bob)), by(t, root, []api.Patch{base}, give("lib", bob, 1))
		gone.Note = strconv.Itoa(i)
		l := idsOf(t, gone, more)
		left := 0
		if rising(l)[0] == l[0] {
			left = 1 // it is taken back ahead of being given
		}
		s := made(t, more, gone, base)
		for _, part := range [][]api.Id{l, {l[1], l[0]}, append(l, l...)} {
			x, e := authz.Table(s, root, part)
			if e != api.OK || len(x.Keys("lib")) != 2+left {
				t.Fatalf("%x: %d", part, e)
			}
		}
	}
}

// P20.1. Of several patches that may not be, the first one in the set's order is told.
func TestAllFirst(t *testing.T) {
	for i := range 30 {
		one, two := by(t, ann, nil, create("a")), by(t, bob, nil, create("b"))
		one.Note = strconv.Itoa(i)
		above := by(t, ann, []api.Patch{one}, create("c"))
		first := rising(idsOf(t, one, two))[0]
		s := made(t, above, two, one)
		if a, n, e := authz.All(s, root); a != first || n != 0 || e != api.ErrRight {
			t.Errorf("%x, %d, %d", a, n, e)
		}
		if a, n, e := authz.All(s, ann); a != idOf(t, two) || n != 0 || e != api.ErrRight {
			t.Errorf("%x, %d, %d", a, n, e)
		}
	}
}

// P20.1. What isn't in the set: Table tells so, nil beside it, wherever it stands.
func TestTableNone(t *testing.T) {
	one := by(t, root, nil, give("lib", ann, 1))
	two := by(t, root, []api.Patch{one}, create("a"))
	s := made(t, one, two)
	a, b, c := idOf(t, one), idOf(t, two), idOf(t, by(t, root, []api.Patch{two}, create("b")))
	for _, l := range [][]api.Id{{{}}, {c}, {a, b, c}, {c, a, b}, {a, c, b, c}, {a, a, {9}}} {
		if x, e := authz.Table(s, root, l); x != nil || e != api.ErrNone {
			t.Errorf("%x: %d", l, e)
		}
	}
	for _, l := range [][]api.Id{{a}, {b}, {b, a}, {a, b, a}} {
		if x, e := authz.Table(s, root, l); e != api.OK || len(x.Grants()) != 1 {
			t.Errorf("%x: %d", l, e)
		}
	}
}

// P20.1. Of several errors of a patch the one that is named first, beside 0.
func TestMayErrors(t *testing.T) {
	one := by(t, root, nil, give("lib", ann, 1))
	s, a := made(t, one), idOf(t, one)
	none := []api.Id{{7}}
	both := rising([]api.Id{a, {0: 255, 1: 255, 2: 255}})
	ok, stranger := []api.Op{create("lib/f"), create("lib/g")}, []api.Op{create("lib/f"), create("f")}
	wrong := []api.Op{create("lib/f"), create("lib//f")}
	for _, x := range []struct {
		p    api.Patch
		n    int
		want api.Errno
	}{
		{api.Patch{Deps: []api.Id{a}, Key: ann, Ops: ok}, 2, api.OK},
		{api.Patch{Deps: []api.Id{a}, Key: ann, Ops: stranger}, 1, api.ErrRight},
		{api.Patch{Deps: none, Key: ann, Ops: stranger}, 0, api.ErrDeps},
		{api.Patch{Deps: both, Key: ann, Ops: ok}, 0, api.ErrDeps},
		{api.Patch{Deps: none, Key: root, Ops: ok}, 0, api.ErrDeps},
		{api.Patch{Deps: none, Key: ann, Ops: wrong}, 0, api.ErrForm},
		{api.Patch{Deps: []api.Id{a}, Key: bob, Ops: wrong}, 0, api.ErrForm},
		{api.Patch{Deps: []api.Id{a}, Key: root, Ops: wrong}, 0, api.ErrForm},
		{api.Patch{Deps: none, Key: ann}, 0, api.ErrArg},
		{api.Patch{Deps: []api.Id{a}, Key: root}, 0, api.ErrArg},
		{api.Patch{Deps: none, Key: ann, Ops: []api.Op{{}}}, 0, api.ErrArg},
		{api.Patch{Deps: none, Key: ann, Ops: []api.Op{give("", bob, 9)}}, 0, api.ErrRange},
		{api.Patch{Deps: none, Key: ann, Ops: []api.Op{give("", bob, -1)}}, 0, api.ErrRange},
		{api.Patch{Deps: []api.Id{{9}, {7}}, Key: root, Ops: ok}, 0, api.ErrOrder},
		{api.Patch{Deps: []api.Id{a, a}, Key: root, Ops: ok}, 0, api.ErrOrder},
		{api.Patch{Deps: make([]api.Id, 17), Key: root, Ops: ok}, 0, api.ErrLong},
		{api.Patch{Deps: none, Key: root, Note: strings.Repeat("n", 401), Ops: ok}, 0, api.ErrLong},
		{api.Patch{Deps: none, Key: root, Ops: slices.Repeat(ok, 17)}, 0, api.ErrLong},
	} {
		if n, e := authz.May(s, root, x.p); n != x.n || e != x.want {
			t.Errorf("%s: %d, %d, not %d, %d", brief(x.p), n, e, x.n, x.want)
		}
	}
}

// P20.1. A patch's signature isn't looked at, right or not; patches that are signed are gone through as others are, and one may be on top of the set in which it is.
func TestSignatures(t *testing.T) {
	par := api.Params{Bits: 8, Height: 2}
	k, e := signer.New(par, "root", 0)
	if e != api.OK {
		t.Fatal(e)
	}
	o, e := signer.New(par, "other", 0)
	if e != api.OK {
		t.Fatal(e)
	}
	first, e := patch.Make(k, nil, "", []api.Op{give("lib", o.Key(), 0)})
	if e != api.OK {
		t.Fatal(e)
	}
	second, e := patch.Make(o, idsOf(t, first), "", []api.Op{create("lib/f"), create("lib/g")})
	if e != api.OK {
		t.Fatal(e)
	}
	s := made(t, second, first)
	if a, n, e := authz.All(s, k.Key()); a != (api.Id{}) || n != 0 || e != api.OK {
		t.Error(a, n, e)
	}
	if a, n, e := authz.All(s, o.Key()); a != idOf(t, first) || n != 0 || e != api.ErrRight {
		t.Error(a, n, e)
	}
	for _, sign := range []api.Signature{second.Sign, first.Sign, {}, {Leaf: -1}, {Leaf: 1 << 62, Way: make([]api.Id, 11)}, {Shown: make([]api.Id, 300)}} {
		p := patch.Clone(second)
		p.Sign = sign
		if n, e := authz.May(s, k.Key(), p); n != 2 || e != api.OK {
			t.Errorf("%s: %d, %d", brief(sign), n, e)
		}
		if n, e := authz.May(s, other, p); n != 0 || e != api.ErrRight {
			t.Errorf("%s: %d, %d", brief(sign), n, e)
		}
	}
}

// chain are so many patches, each on top of the one ahead, each with so many grants by the root, all unlike.
func chain(t *testing.T, n, each int) []api.Patch {
	t.Helper()
	var l []api.Patch
	for i := range n {
		var ops []api.Op
		for k := range each {
			ops = append(ops, give("lib", api.Id{0: 200, 1: byte(i), 2: byte(i >> 8), 3: byte(k)}, 0))
		}
		l = append(l, by(t, root, l[max(i-1, 0):], ops...))
	}
	return l
}

// P20.1. As many patches as a set has at most, and as many grants as a table has at most: the grant behind them is the one that may not be.
func TestFull(t *testing.T) {
	l := chain(t, 1000, 1)
	s := made(t, l...)
	if a, i, e := authz.All(s, root); a != idOf(t, l[500]) || i != 0 || e != api.ErrRight {
		t.Errorf("%x, %d, %d", a, i, e)
	}
	if n := len(authz.Now(s, root).Grants()); n != 500 {
		t.Error(n)
	}
	for _, x := range []struct{ at, grants, n int }{{0, 1, 1}, {498, 499, 1}, {499, 500, 0}, {999, 500, 0}} {
		u, e := authz.Table(s, root, idsOf(t, l[x.at]))
		if e != api.OK || len(u.Grants()) != x.grants {
			t.Errorf("%d: %d, %d", x.at, len(u.Grants()), e)
		}
		n, e := authz.May(s, root, by(t, root, l[x.at:x.at+1], give("q", ann, 0)))
		if n != x.n || e != map[int]api.Errno{0: api.ErrRight, 1: api.OK}[x.n] {
			t.Errorf("%d: %d, %d", x.at, n, e)
		}
	}
	l = chain(t, 16, 32)
	if a, i, e := authz.All(made(t, l...), root); a != idOf(t, l[15]) || i != 20 || e != api.ErrRight {
		t.Errorf("%x, %d, %d", a, i, e)
	}
	if a, i, e := authz.All(made(t, l[:15]...), root); a != (api.Id{}) || i != 0 || e != api.OK {
		t.Errorf("%x, %d, %d", a, i, e)
	}
}

// P20.1. What is handed in is neither changed nor kept, its spare room neither; tables that are told are tables of their own.
func TestMemory(t *testing.T) {
	one := by(t, root, nil, give("lib", ann, 1))
	two := by(t, ann, []api.Patch{one}, give("lib/x", bob, 0), create("lib/f"))
	s, m := made(t, one, two), modelOf(t, []api.Patch{one, two})
	l := append(make([]api.Id, 0, 8), idsOf(t, two, one, two)...)
	kept := slices.Clone(l[:8])
	p := patch.Clone(two)
	p.Deps = append(make([]api.Id, 0, 4), p.Deps...)
	p.Ops = append(make([]api.Op, 0, 4), p.Ops...)
	for range 2 {
		x, e := authz.Table(s, root, l)
		if e != api.OK || !slices.Equal(l[:8], kept) {
			t.Fatalf("%x: %d", l[:8], e)
		}
		y := authz.Now(s, root)
		for _, u := range []*grant.Table{x, y} {
			sameTable(t, u, m.table(root, l))
			if e := u.Apply(root, take("", ann)); e != api.OK {
				t.Fatal(e)
			}
		}
		if n, e := authz.May(s, root, p); n != 2 || e != api.OK {
			t.Error(n, e)
		}
		if !patch.Same(p, two) || !reflect.DeepEqual(p.Deps[:4], append(slices.Clone(two.Deps), make([]api.Id, 3)...)) || !reflect.DeepEqual(p.Ops[:4], append(slices.Clone(two.Ops), make([]api.Op, 2)...)) {
			t.Errorf("%s", brief(p))
		}
		looks(t, s, root, m)
	}
	for i, q := range []api.Patch{one, two} {
		if got, ok := s.Get(idOf(t, q)); !ok || !patch.Same(got, q) {
			t.Errorf("%d: %s", i, brief(got))
		}
	}
}
