package state_test

import (
	"fmt"
	"math/rand"
	"reflect"
	"slices"
	"strconv"
	"strings"
	"testing"

	"quitclaim/api"
	"quitclaim/graph"
	"quitclaim/patch"
	"quitclaim/signer"
	"quitclaim/state"
	"quitclaim/tree"
)

// brief is the beginning of a value's text.
func brief(v any) string {
	s := fmt.Sprint(v)
	return s[:min(len(s), 300)]
}

// create is an operation.
func create(s string) api.Op { return api.Op{Kind: api.Create, Path: s} }

// edit is one that puts lines in ahead of all.
func edit(s string, lines ...string) api.Op { return api.Op{Kind: api.Edit, Path: s, New: lines} }

// idOf is a patch's id.
func idOf(t *testing.T, p api.Patch) api.Id {
	t.Helper()
	a, e := patch.Id(p)
	if e != api.OK {
		t.Fatalf("%s: %d", brief(p), e)
	}
	return a
}

// idsOf are patches' ids.
func idsOf(t *testing.T, l ...api.Patch) []api.Id {
	t.Helper()
	var ids []api.Id
	for _, p := range l {
		ids = append(ids, idOf(t, p))
	}
	return ids
}

// rising are ids, each once, in the order of their bytes.
func rising(l []api.Id) []api.Id {
	l = slices.Clone(l)
	slices.SortFunc(l, func(a, b api.Id) int { return strings.Compare(string(a[:]), string(b[:])) })
	return slices.Compact(l)
}

// on is a patch on top of others.
func on(t *testing.T, below []api.Patch, ops ...api.Op) api.Patch {
	t.Helper()
	return api.Patch{Deps: rising(idsOf(t, below...)), Ops: ops}
}

// copied are patches with rows of their own.
func copied(l []api.Patch) []api.Patch {
	l = slices.Clone(l)
	for i, p := range l {
		l[i] = patch.Clone(p)
	}
	return l
}

// model is a set's patches by their ids, held against it.
type model map[api.Id]api.Patch

// modelOf is that of patches.
func modelOf(t *testing.T, l []api.Patch) model {
	t.Helper()
	m := model{}
	for _, p := range l {
		m[idOf(t, p)] = p
	}
	return m
}

// ids are those of a model, rising.
func (m model) ids() []api.Id {
	var l []api.Id
	for a := range m {
		l = append(l, a)
	}
	return rising(l)
}

// order is the ids, by the words: again and again the least one that isn't in it yet, all of whose deps are.
func (m model) order() []api.Id {
	var l []api.Id
	for len(l) < len(m) {
		for _, a := range m.ids() {
			waits := slices.ContainsFunc(m[a].Deps, func(b api.Id) bool { return !slices.Contains(l, b) })
			if !waits && !slices.Contains(l, a) {
				l = append(l, a)
				break
			}
		}
	}
	return l
}

// part is some patches with all on which they hang.
func (m model) part(l []api.Id) model {
	some := model{}
	for _, a := range l {
		some[a] = m[a]
		for b, p := range m.part(m[a].Deps) {
			some[b] = p
		}
	}
	return some
}

// come is what patches come to, operation by operation: the tree; or where they clash.
func (m model) come() (t tree.Tree, clash api.Id, place int, clashes bool) {
	for _, a := range m.order() {
		for i, o := range m[a].Ops {
			next, e := t.Apply(o)
			if e != api.OK {
				return tree.Tree{}, a, i, true
			}
			t = next
		}
	}
	return t, api.Id{}, 0, false
}

// made is the set of patches.
func made(t *testing.T, l []api.Patch) *state.Set {
	t.Helper()
	s, e := state.New(l)
	if e != api.OK || s == nil {
		t.Fatalf("%s: %d", brief(l), e)
	}
	return s
}

// looks holds a set against a model.
func looks(t *testing.T, s *state.Set, m model) {
	t.Helper()
	if s.Len() != len(m) || !slices.Equal(s.Ids(), m.ids()) {
		t.Fatalf("%s: %d, %x", brief(m), s.Len(), s.Ids())
	}
	entries, patches := s.Order(), s.Patches()
	if len(entries) != len(m) || len(patches) != len(m) {
		t.Fatalf("%s: %d, %d", brief(m), len(entries), len(patches))
	}
	for i, a := range m.order() {
		if entries[i].Id != a || !patch.Same(entries[i].Patch, m[a]) || !patch.Same(patches[i], m[a]) {
			t.Fatalf("%s: at %d %s", brief(m), i, brief(entries[i]))
		}
		if p, ok := s.Get(a); !ok || !s.Has(a) || !patch.Same(p, m[a]) {
			t.Fatalf("%x: %s, %v", a, brief(p), ok)
		}
	}
	for _, a := range []api.Id{{}, {1}, {31: 1}, {0: 255}} {
		if p, ok := s.Get(a); ok || s.Has(a) || !reflect.DeepEqual(p, api.Patch{}) {
			t.Fatalf("%x: %s, %v", a, brief(p), ok)
		}
	}
	hangs(t, s.Graph(), m)
	comes(t, s, m)
}

// hangs holds a graph against a model.
func hangs(t *testing.T, g *graph.Graph, m model) {
	t.Helper()
	if g.Len() != len(m) || !slices.Equal(g.Order(), m.order()) {
		t.Fatalf("%s: %x", brief(m), g.Order())
	}
	for a, p := range m {
		if !slices.Equal(g.Deps(a), p.Deps) {
			t.Fatalf("%s: %x", brief(p), g.Deps(a))
		}
	}
}

// comes holds what a set comes to against a model.
func comes(t *testing.T, s *state.Set, m model) {
	t.Helper()
	want, clash, place, clashes := m.come()
	if a, n, ok := s.Clash(); a != clash || n != place || ok != clashes {
		t.Fatalf("%s: %x, %d, %v, not %x, %d, %v", brief(m), a, n, ok, clash, place, clashes)
	}
	x, e := s.Tree()
	if wrong := map[bool]api.Errno{true: api.ErrClash}[clashes]; e != wrong || !tree.Same(x, want) {
		t.Fatalf("%s: %s, %d, not %s", brief(m), brief(x.Files()), e, brief(want.Files()))
	}
}

// at holds what some patches of a set come to against a model; it tells whether they clash.
func at(t *testing.T, s *state.Set, m model, l []api.Id) bool {
	t.Helper()
	want, _, _, clashes := m.part(l).come()
	x, e := s.At(l)
	if wrong := map[bool]api.Errno{true: api.ErrClash}[clashes]; e != wrong || !tree.Same(x, want) {
		t.Fatalf("%s at %x: %s, %d, not %s", brief(m), l, brief(x.Files()), e, brief(want.Files()))
	}
	return clashes
}

// pool are operations that often fit, and often don't.
func pool() []api.Op {
	return []api.Op{
		create("a"), create("a"), create("b"), create("a/b"), edit("a", "x"), edit("b", "y", "z"), {Kind: api.Edit, Path: "a", At: 1, New: []string{"u"}}, {Kind: api.Edit, Path: "a", Old: []string{"x"}},
		{Kind: api.Remove, Path: "a"}, {Kind: api.Move, Path: "a", To: "b"}, {Kind: api.Move, Path: "b", To: "a/b"}, {Kind: api.Grant, Path: "a", Depth: 3}, {Kind: api.Revoke}, {Kind: api.Revoke, Path: "a", Key: api.Id{1}},
	}
}

// grown are so many patches that hang on one another, with files of their own or shared ones.
func grown(t *testing.T, r *rand.Rand, n int, shared bool) []api.Patch {
	t.Helper()
	var l []api.Patch
	ops := pool()
	for i := range n {
		var below []api.Patch
		for _, p := range l {
			if r.Intn(3) == 0 {
				below = append(below, p)
			}
		}
		p := on(t, below, create("f"+strconv.Itoa(i)), edit("f"+strconv.Itoa(i), "x", "y"))
		for range r.Intn(3) {
			if shared {
				p.Ops = append(p.Ops, ops[r.Intn(len(ops))])
			}
		}
		p.Key, p.Note = api.Id{byte(r.Intn(3))}, strconv.Itoa(r.Intn(1000))
		l = append(l, p)
	}
	return l
}

// mixed are patches in another order.
func mixed(r *rand.Rand, l []api.Patch) []api.Patch {
	l = slices.Clone(l)
	r.Shuffle(len(l), func(i, j int) { l[i], l[j] = l[j], l[i] })
	return l
}

// P18.1, P18.2. Sets of patches that hang on one another in all ways, handed in in several orders: all that they tell.
func TestSets(t *testing.T) {
	r := rand.New(rand.NewSource(18))
	clash, fit := 0, 0
	for round := range 300 {
		l := grown(t, r, r.Intn(7), round%3 > 0)
		m := modelOf(t, l)
		for range 3 {
			s := made(t, mixed(r, l))
			looks(t, s, m)
			ids := m.ids()
			for bits := range 1 << len(ids) {
				some := slices.DeleteFunc(slices.Clone(ids), func(a api.Id) bool { return bits>>slices.Index(ids, a)&1 == 0 })
				r.Shuffle(len(some), func(i, j int) { some[i], some[j] = some[j], some[i] })
				if at(t, s, m, append(some, some...)) {
					clash++
				} else {
					fit++
				}
			}
			looks(t, s, m)
		}
	}
	if clash < 1000 || fit < 1000 {
		t.Error(clash, fit)
	}
}

// P18.2. A set that others come to, some by some, is the same as one of all at once; the sets ahead stay as they were.
func TestGrownSets(t *testing.T) {
	r := rand.New(rand.NewSource(181))
	for range 100 {
		l := grown(t, r, 2+r.Intn(6), true)
		m := modelOf(t, l)
		whole := made(t, l)
		want, wrong := whole.Tree()
		s := made(t, nil)
		var sets []*state.Set
		var models []model
		for s.Len() < len(l) {
			sets, models = append(sets, s), append(models, modelOf(t, s.Patches()))
			heads := []api.Id{m.ids()[r.Intn(len(m))], m.ids()[r.Intn(len(m))]}
			var more []api.Patch
			for _, p := range m.part(heads) {
				more = append(more, p)
			}
			more = mixed(r, append(more, more...))
			var e api.Errno
			if s, e = s.With(more); e != api.OK {
				t.Fatalf("%s: %d", brief(more), e)
			}
		}
		looks(t, s, m)
		if x, e := s.Tree(); e != wrong || !tree.Same(x, want) || !slices.Equal(s.Graph().Order(), whole.Graph().Order()) {
			t.Fatalf("%s: %s, %d", brief(l), brief(x.Files()), e)
		}
		for i, before := range sets {
			looks(t, before, models[i])
		}
	}
}

// P18.1. The example: of two patches that both create a file the one with the greater id clashes.
func TestExample(t *testing.T) {
	for i := range 20 {
		one, two := api.Patch{Note: "one", Ops: []api.Op{create("a")}}, api.Patch{Note: strconv.Itoa(i), Ops: []api.Op{create("a")}}
		greater := rising(idsOf(t, one, two))[1]
		for _, l := range [][]api.Patch{{one, two}, {two, one}} {
			s := made(t, l)
			if a, n, ok := s.Clash(); a != greater || n != 0 || !ok {
				t.Errorf("%x, %d, %v, not %x", a, n, ok, greater)
			}
			if x, e := s.Tree(); e != api.ErrClash || x.Len() != 0 {
				t.Error(x, e)
			}
		}
	}
}

// P18.1. Without patches nothing is there.
func TestEmpty(t *testing.T) {
	for _, l := range [][]api.Patch{nil, {}} {
		s := made(t, l)
		looks(t, s, model{})
		for _, none := range [][]api.Id{nil, {}} {
			if x, e := s.At(none); e != api.OK || x.Len() != 0 {
				t.Error(x, e)
			}
		}
		if x, e := s.At([]api.Id{{}}); e != api.ErrNone || x.Len() != 0 {
			t.Error(x, e)
		}
		u, e := s.With(l)
		if e != api.OK || u == nil {
			t.Fatal(e)
		}
		looks(t, u, model{})
	}
}

// full are as many patches as make a tree full, each on top of the one ahead.
func full(t *testing.T) []api.Patch {
	t.Helper()
	var l []api.Patch
	for i := range 8 {
		var ops []api.Op
		for k := range 25 {
			ops = append(ops, create("d/"+strconv.Itoa(25*i+k)))
		}
		l = append(l, on(t, l[max(i-1, 0):], ops...))
	}
	return l
}

// P18.1. Whatever error an operation has, it clashes, and the patch and the operation are told; policy never does.
func TestClashKinds(t *testing.T) {
	base := []api.Patch{on(t, nil, create("a"), edit("a", "x", "y"), create("c/d"), edit("c/d", slices.Repeat([]string{"l"}, 1000)...))}
	good := []api.Op{create("q"), edit("q", "z"), {Kind: api.Grant, Path: "a", Key: api.Id{1}, Depth: 8}, {Kind: api.Revoke, Path: "nothing"}}
	bad := []api.Op{
		create("a"), create("a/b"), create("c"), {Kind: api.Remove, Path: "a"}, {Kind: api.Remove, Path: "n"}, edit("n", "x"), {Kind: api.Edit, Path: "a", At: 3, New: []string{"z"}}, {Kind: api.Edit, Path: "a", Old: []string{"y"}}, edit("c/d", "x"),
		{Kind: api.Move, Path: "n", To: "m"}, {Kind: api.Move, Path: "a", To: "c/d"}, {Kind: api.Move, Path: "a", To: "c"}, {Kind: api.Move, Path: "a", To: "c/d/e"},
	}
	for _, o := range bad {
		for n := range len(good) + 1 {
			ops := slices.Concat(good[:n], []api.Op{o}, good[n:], bad)
			looksClash(t, base, on(t, base, ops...), n)
		}
	}
	l := full(t)
	looks(t, made(t, l), modelOf(t, l))
	looksClash(t, l, on(t, l[7:], good[2], good[3], create("one-more")), 2)
	looksClash(t, nil, on(t, nil, bad[4:]...), 0)
	s := made(t, append(base, on(t, base, good...)))
	if a, n, ok := s.Clash(); a != (api.Id{}) || n != 0 || ok {
		t.Error(a, n, ok)
	}
}

// looksClash looks at a set of patches, and one more that clashes at a place.
func looksClash(t *testing.T, base []api.Patch, p api.Patch, place int) {
	t.Helper()
	l := append([]api.Patch{p}, base...)
	s := made(t, l)
	if a, n, ok := s.Clash(); a != idOf(t, p) || n != place || !ok {
		t.Fatalf("%s: %x, %d, %v, not %d", brief(p.Ops), a, n, ok, place)
	}
	looks(t, s, modelOf(t, l))
	if x, e := s.At(idsOf(t, p)); e != api.ErrClash || x.Len() != 0 {
		t.Fatalf("%s: %s, %d", brief(p.Ops), brief(x.Files()), e)
	}
	if x, e := s.At(p.Deps); e != api.OK || len(base) > 0 && x.Len() == 0 {
		t.Fatalf("%s: %s, %d", brief(base), brief(x.Files()), e)
	}
}

// P18.1. Patches may clash alone that don't clash with others beside them, and the other way round.
func TestAtParts(t *testing.T) {
	one := on(t, nil, create("a"))
	var two api.Patch
	for i := 0; ; i++ {
		two = api.Patch{Note: strconv.Itoa(i), Ops: []api.Op{edit("a", "x")}}
		if l := idsOf(t, one, two); rising(l)[1] == l[1] {
			break
		}
	}
	three := on(t, []api.Patch{one}, create("a"))
	s := made(t, []api.Patch{two, one})
	if x, e := s.At(idsOf(t, two)); e != api.ErrClash || x.Len() != 0 {
		t.Error(x, e)
	}
	if x, e := s.At(idsOf(t, two, one)); e != api.OK || x.Len() != 1 {
		t.Error(x, e)
	}
	u, e := s.With([]api.Patch{three})
	if _, f := u.Tree(); e != api.OK || f != api.ErrClash {
		t.Error(e, f)
	}
	if x, e := u.At(idsOf(t, one, two, one)); e != api.OK || x.Len() != 1 {
		t.Error(x, e)
	}
	// ErrNone is told ahead of ErrClash, wherever it stands.
	for _, l := range [][]api.Id{{{9}}, append(idsOf(t, three), api.Id{9}), append([]api.Id{{9}}, idsOf(t, three, one)...), {idOf(t, one), {}}} {
		if x, e := u.At(l); e != api.ErrNone || x.Len() != 0 {
			t.Errorf("%x: %s, %d", l, brief(x), e)
		}
	}
	looks(t, u, modelOf(t, []api.Patch{one, two, three}))
}

// wrong is a patch that has no id, and why.
type wrong struct {
	p api.Patch
	e api.Errno
}

// wrongs are such patches.
func wrongs() []wrong {
	ops := []api.Op{create("a")}
	return []wrong{
		{api.Patch{}, api.ErrArg}, {api.Patch{Ops: []api.Op{{}}}, api.ErrArg}, {api.Patch{Deps: []api.Id{{2}, {1}}, Ops: ops}, api.ErrOrder}, {api.Patch{Deps: []api.Id{{1}, {1}}, Ops: ops}, api.ErrOrder}, {api.Patch{Deps: make([]api.Id, 17), Ops: ops}, api.ErrLong}, {api.Patch{Note: strings.Repeat("n", 401), Ops: ops}, api.ErrLong}, {api.Patch{Ops: slices.Repeat(ops, 33)}, api.ErrLong},
		{api.Patch{Ops: []api.Op{create("a"), create("A")}}, api.ErrForm}, {api.Patch{Ops: []api.Op{{Kind: api.Grant, Depth: 9}}}, api.ErrRange}, {api.Patch{Ops: ops, Sign: api.Signature{Leaf: -1}}, api.ErrForm}, {api.Patch{Ops: ops, Sign: api.Signature{Way: make([]api.Id, 11)}}, api.ErrForm},
	}
}

// refused looks whether New makes no set of patches.
func refused(t *testing.T, want api.Errno, l ...api.Patch) {
	t.Helper()
	if s, e := state.New(l); e != want || s != nil {
		t.Errorf("%s: %v, %d, not %d", brief(l), s != nil, e, want)
	}
}

// P18.1. What New refuses: of several errors the one that is named first, whatever stands ahead of it.
func TestNewErrors(t *testing.T) {
	one := on(t, nil, create("a"))
	two := on(t, []api.Patch{one}, edit("a", "x"))
	none := api.Patch{Deps: []api.Id{{7}}, Ops: []api.Op{create("b")}}
	for _, x := range wrongs() {
		for _, l := range [][]api.Patch{nil, {one}, {one, two}, {one, one}, {none}, {none, none}, {two}} {
			refused(t, x.e, append(slices.Clone(l), x.p)...)
			refused(t, x.e, append([]api.Patch{x.p}, l...)...)
		}
		for _, y := range wrongs() {
			refused(t, x.e, one, one, x.p, none, y.p)
		}
	}
	refused(t, api.ErrSame, one, one)
	refused(t, api.ErrSame, two, one, two)
	refused(t, api.ErrSame, none, none)
	refused(t, api.ErrSame, two, none, two)
	refused(t, api.ErrDeps, two)
	refused(t, api.ErrDeps, none)
	refused(t, api.ErrDeps, one, two, none)
	refused(t, api.ErrDeps, on(t, []api.Patch{two}, create("c")), one)
}

// many are so many patches, each on top of the one ahead.
func many(t *testing.T, n int) []api.Patch {
	t.Helper()
	var l []api.Patch
	for i := range n {
		p := on(t, l[max(i-1, 0):], api.Op{Kind: api.Revoke})
		p.Note = strconv.Itoa(i)
		l = append(l, p)
	}
	return l
}

// P18.1. A set has at most 1000 patches; that it hasn't is told behind all else.
func TestFull(t *testing.T) {
	l := many(t, 1003)
	r := rand.New(rand.NewSource(182))
	s := made(t, mixed(r, l[:1000]))
	if s.Len() != 1000 || s.Order()[999].Id != idOf(t, l[999]) {
		t.Error(s.Len())
	}
	if x, e := s.Tree(); e != api.OK || x.Len() != 0 {
		t.Error(e)
	}
	refused(t, api.ErrFull, l[:1001]...)
	refused(t, api.ErrFull, mixed(r, l)...)
	refused(t, api.ErrDeps, l[1:]...)
	refused(t, api.ErrSame, append(slices.Clone(l), l[500])...)
	refused(t, api.ErrArg, append(slices.Clone(l), api.Patch{})...)
	u, e := s.With(l[:1000])
	if e != api.OK || u.Len() != 1000 {
		t.Fatal(e)
	}
	for _, x := range []struct {
		more []api.Patch
		want api.Errno
	}{
		{l[1000:1001], api.ErrFull}, {l[999:1001], api.ErrFull}, {l, api.ErrFull}, {l[1001:], api.ErrDeps}, {append(slices.Clone(l), l...), api.ErrFull}, {append(slices.Clone(l), api.Patch{}), api.ErrArg}, {append(slices.Clone(l), wrongs()[2].p), api.ErrOrder},
	} {
		if u, e := s.With(x.more); e != x.want || u != nil {
			t.Errorf("%d more: %d, not %d", len(x.more), e, x.want)
		}
	}
	near := made(t, l[:998])
	if u, e := near.With(append(slices.Clone(l[990:1000]), l[990:1000]...)); e != api.OK || u.Len() != 1000 || near.Len() != 998 {
		t.Error(e)
	}
	if u, e := near.With(l[998:1001]); e != api.ErrFull || u != nil || near.Len() != 998 {
		t.Error(e)
	}
}

// P18.1. What With takes, in any order, and what it refuses; the set stays as it was.
func TestWith(t *testing.T) {
	one := on(t, nil, create("a"))
	two := on(t, []api.Patch{one}, edit("a", "x"))
	three := on(t, []api.Patch{two}, edit("a", "y"))
	four := on(t, []api.Patch{one, three}, api.Op{Kind: api.Remove, Path: "a", Old: []string{"y", "x"}})
	none := api.Patch{Deps: []api.Id{{7}}, Ops: []api.Op{create("b")}}
	base := []api.Patch{one, two}
	s := made(t, base)
	for _, x := range []struct{ more, all []api.Patch }{
		{nil, base}, {base, base}, {[]api.Patch{two, two, two}, base}, {[]api.Patch{three}, []api.Patch{one, two, three}}, {[]api.Patch{three, three, one, three}, []api.Patch{one, two, three}}, {[]api.Patch{four, three}, []api.Patch{one, two, three, four}}, {[]api.Patch{four, two, three, one, four}, []api.Patch{one, two, three, four}},
	} {
		u, e := s.With(x.more)
		if e != api.OK || u == nil {
			t.Fatalf("%s: %d", brief(x.more), e)
		}
		looks(t, u, modelOf(t, x.all))
		looks(t, s, modelOf(t, base))
	}
	for _, l := range [][]api.Patch{{four}, {none}, {three, none}, {one, one, none, three}, {none, none, four}} {
		if u, e := s.With(l); e != api.ErrDeps || u != nil {
			t.Errorf("%s: %d", brief(l), e)
		}
		for _, x := range wrongs() {
			for at := range len(l) + 1 {
				if u, e := s.With(slices.Insert(slices.Clone(l), at, x.p, api.Patch{Ops: make([]api.Op, 33)})); e != x.e || u != nil {
					t.Errorf("%s, then %s: %d, not %d", brief(l), brief(x.p), e, x.e)
				}
			}
		}
		looks(t, s, modelOf(t, base))
	}
}

// P18.1. Patches are told with their signatures; of one body, signed twice, there are two.
func TestSigned(t *testing.T) {
	k, e := signer.New(api.Params{Bits: 8, Height: 2}, "s", 0)
	if e != api.OK {
		t.Fatal(e)
	}
	var l []api.Patch
	for range 2 {
		p, e := patch.Make(k, nil, "note", []api.Op{{Kind: api.Grant, Path: "a", Key: api.Id{1}}})
		if e != api.OK {
			t.Fatal(e)
		}
		l = append(l, p)
	}
	p, e := patch.Make(k, idsOf(t, l...), "", []api.Op{create("a"), edit("a", "\xff\x00")})
	if e != api.OK {
		t.Fatal(e)
	}
	l = append(l, p)
	s := made(t, l)
	looks(t, s, modelOf(t, l))
	for _, q := range s.Patches() {
		if e := patch.Verify(api.Params{Bits: 8, Height: 2}, q); e != api.OK {
			t.Error(e)
		}
	}
	if x, e := s.Tree(); s.Len() != 3 || e != api.OK || x.Len() != 1 {
		t.Error(s.Len(), e)
	}
}

// roomy are two patches, the second one on top of the first, all whose rows have spare room, in a row that has.
func roomy(t *testing.T) []api.Patch {
	t.Helper()
	ids := func(n int) []api.Id { return append(make([]api.Id, 0, 8), make([]api.Id, n)...) }
	lines := func(l ...string) []string { return append(make([]string, 0, 8), l...) }
	ops := append(make([]api.Op, 0, 8), create("a"), api.Op{Kind: api.Edit, Path: "a", New: lines("x", "y")})
	one := api.Patch{Ops: ops, Sign: api.Signature{Shown: ids(3), Hidden: ids(2), Way: ids(1)}}
	ops = append(make([]api.Op, 0, 8), api.Op{Kind: api.Edit, Path: "a", Old: lines("x"), New: lines("z")})
	two := api.Patch{Deps: append(make([]api.Id, 0, 8), idOf(t, one)), Ops: ops, Sign: api.Signature{Shown: ids(1), Hidden: ids(1), Way: ids(4)}}
	return append(make([]api.Patch, 0, 8), two, one)
}

// spoil changes all rows of a patch, their spare room too.
func spoil(p api.Patch) {
	for _, l := range [][]api.Id{p.Deps, p.Sign.Shown, p.Sign.Hidden, p.Sign.Way} {
		for i := range l[:cap(l)] {
			l[:cap(l)][i] = api.Id{0: 99, 5: byte(i)}
		}
	}
	for i := range p.Ops[:cap(p.Ops)] {
		o := &p.Ops[:cap(p.Ops)][i]
		for _, l := range [][]string{o.Old, o.New} {
			for k := range l[:cap(l)] {
				l[:cap(l)][k] = "spoilt"
			}
		}
		*o = api.Op{Kind: 9}
	}
}

// P18.1. What is handed in is neither changed nor kept, its spare room neither.
func TestMemoryOfArguments(t *testing.T) {
	l := roomy(t)
	m := modelOf(t, copied(l))
	s := made(t, l)
	u, e := made(t, nil).With(l)
	if e != api.OK {
		t.Fatal(e)
	}
	v, e := made(t, l[1:]).With(l)
	if e != api.OK || !reflect.DeepEqual(l, roomy(t)) || !reflect.DeepEqual(l[:8], roomy(t)[:8]) {
		t.Fatalf("%s, %d", brief(l[:8]), e)
	}
	for i, p := range roomy(t) {
		if !reflect.DeepEqual(l[i].Ops[:8], p.Ops[:8]) || !reflect.DeepEqual(l[i].Sign.Way[:8], p.Sign.Way[:8]) || i == 0 && !reflect.DeepEqual(l[i].Deps[:8], p.Deps[:8]) {
			t.Fatalf("%s", brief(l[i]))
		}
	}
	some := append(make([]api.Id, 0, 4), idsOf(t, l[0], l[1], l[0])...)
	before := slices.Clone(some[:4])
	if _, e := s.At(some); e != api.OK || !slices.Equal(some[:4], before) {
		t.Error(some[:4], e)
	}
	for _, p := range l {
		spoil(p)
	}
	clear(l[:8])
	for _, x := range []*state.Set{s, u, v} {
		looks(t, x, m)
	}
}

// P18.1. What is told shares nothing, with a set, or one that was made of it, neither.
func TestMemoryOfAnswers(t *testing.T) {
	l := roomy(t)
	m := modelOf(t, copied(l))
	s := made(t, l)
	three := on(t, l[:1], create("b"))
	all := model{idOf(t, three): three}
	for a, p := range m {
		all[a] = p
	}
	u, e := s.With([]api.Patch{three})
	if e != api.OK {
		t.Fatal(e)
	}
	for _, x := range []*state.Set{s, u} {
		kept := append(x.Patches(), x.Patches()...)
		entries, patches, ids := x.Order(), x.Patches(), x.Ids()
		one, _ := x.Get(entries[1].Id)
		for _, y := range entries {
			spoil(y.Patch)
		}
		clear(entries[:cap(entries)])
		for _, p := range append(patches, one) {
			spoil(p)
		}
		clear(patches[:cap(patches)])
		clear(ids[:cap(ids)])
		for i, p := range kept {
			if want := all[x.Graph().Order()[i%x.Len()]]; !patch.Same(p, want) {
				t.Errorf("%s, not %s", brief(p), brief(want))
			}
		}
		looks(t, s, m)
		looks(t, u, all)
	}
}
