package audit_test

import (
	"crypto/sha256"
	"encoding/binary"
	"fmt"
	"math"
	"math/bits"
	"math/rand"
	"reflect"
	"slices"
	"strconv"
	"strings"
	"testing"

	"quitclaim/api"
	"quitclaim/audit"
	"quitclaim/disk"
	"quitclaim/grant"
	"quitclaim/journal"
	"quitclaim/keytree"
	"quitclaim/patch"
	"quitclaim/signer"
	"quitclaim/state"
	"quitclaim/store"
	"quitclaim/tree"
)

// par are the params of most patches.
var par = api.Params{Bits: 8, Height: 3}

// brief is the beginning of a value's text.
func brief(v any) string {
	s := fmt.Sprint(v)
	return s[:min(len(s), 300)]
}

// told holds an error against what it is to be.
func told(t *testing.T, got, want api.Errno) {
	t.Helper()
	if got != want {
		t.Fatalf("%d, not %d", got, want)
	}
}

// create is a Create.
func create(s string) api.Op { return api.Op{Kind: api.Create, Path: s} }

// give is a Grant.
func give(s string, k api.Id, depth int) api.Op {
	return api.Op{Kind: api.Grant, Path: s, Key: k, Depth: depth}
}

// keys are those of seeds that were asked for already.
var keys = map[string]api.Id{}

// keyOf is a seed's key.
func keyOf(t *testing.T, seed string) api.Id {
	t.Helper()
	if _, known := keys[seed]; !known {
		k, e := keytree.Of(par, seed)
		told(t, e, api.OK)
		keys[seed] = k
	}
	return keys[seed]
}

// idOf is a patch's id.
func idOf(t *testing.T, p api.Patch) api.Id {
	t.Helper()
	a, e := patch.Id(p)
	if e != api.OK {
		t.Fatalf("%s: %d", brief(p), e)
	}
	return a
}

// less tells which one of two ids is ahead.
func less(a, b api.Id) int { return strings.Compare(string(a[:]), string(b[:])) }

// with is a patch that a leaf of a seed's key signed, on top of others.
func with(t *testing.T, p api.Params, seed string, leaf int, note string, below []api.Patch, ops ...api.Op) api.Patch {
	t.Helper()
	s, e := signer.New(p, seed, leaf)
	told(t, e, api.OK)
	var deps []api.Id
	for _, q := range below {
		deps = append(deps, idOf(t, q))
	}
	x, e := patch.Make(s, deps, note, ops)
	if e != api.OK {
		t.Fatal(brief(ops), e)
	}
	return x
}

// row are so many patches of the root's, each on top of the one ahead, that create files.
func row(t *testing.T, n int) []api.Patch {
	t.Helper()
	var l []api.Patch
	for i := range n {
		l = append(l, with(t, par, "r", i, "", l[max(i-1, 0):], create("p"+strconv.Itoa(i))))
	}
	return l
}

// mixed are patches in another order.
func mixed(r *rand.Rand, l []api.Patch) []api.Patch {
	l = slices.Clone(l)
	r.Shuffle(len(l), func(i, j int) { l[i], l[j] = l[j], l[i] })
	return l
}

// spoilt is a patch whose signature isn't its key's, or fits no params.
func spoilt(p api.Patch, fits bool) api.Patch {
	p = patch.Clone(p)
	if fits {
		p.Sign.Shown[3][5]++
	} else {
		p.Sign.Way = nil
	}
	return p
}

// tagged is a tagged sum, by the words.
func tagged(name string, parts ...string) api.Id {
	b := append([]byte{byte(len(name))}, name...)
	for _, p := range parts {
		b = binary.BigEndian.AppendUint64(b, uint64(len(p)))
		b = append(b, p...)
	}
	return sha256.Sum256(b)
}

// rootOf is the root of ids that rise, by the words.
func rootOf(l []api.Id) api.Id {
	switch len(l) {
	case 0:
		return tagged("none")
	case 1:
		return tagged("item", string(l[0][:]))
	}
	k := 1 << (bits.Len(uint(len(l)-1)) - 1)
	a, b := rootOf(l[:k]), rootOf(l[k:])
	return tagged("join", string(a[:]), string(b[:]))
}

// tallyOf is the tally of ids, by the words.
func tallyOf(l []api.Id) complex128 {
	x, y := 1, 0
	for _, a := range l {
		u, v := int(binary.BigEndian.Uint16(a[:]))%65519, int(binary.BigEndian.Uint16(a[2:]))%65519
		if u == 0 && v == 0 {
			u = 1
		}
		x, y = (x*u+(65519-y)*v)%65519, (x*v+y*u)%65519
	}
	return complex(float64(x), float64(y))
}

// model is patches by their ids.
type model map[api.Id]api.Patch

// modelOf is that of patches.
func modelOf(t *testing.T, l []api.Patch) model {
	t.Helper()
	m := model{}
	for _, p := range l {
		m[idOf(t, p)] = p
	}
	return m
}

// ids are all, rising.
func (m model) ids() []api.Id {
	var l []api.Id
	for a := range m {
		l = append(l, a)
	}
	slices.SortFunc(l, less)
	return l
}

// order is the ids, by the words: again and again the least one that isn't in it yet, all of whose deps are.
func (m model) order() []api.Id {
	var l []api.Id
	for ids := m.ids(); len(l) < len(m); {
		for _, a := range ids {
			waits := slices.ContainsFunc(m[a].Deps, func(b api.Id) bool { return !slices.Contains(l, b) })
			if !waits && !slices.Contains(l, a) {
				l = append(l, a)
				break
			}
		}
	}
	return l
}

// part is some patches with all on which they hang.
func (m model) part(l []api.Id) model {
	some := model{}
	for _, a := range l {
		some[a] = m[a]
		for b, p := range m.part(m[a].Deps) {
			some[b] = p
		}
	}
	return some
}

// may tells whether a patch may be, by the table of its cone.
func (m model) may(root api.Id, p api.Patch) bool {
	t, cone := grant.New(root), m.part(p.Deps)
	for _, a := range m.order() {
		if _, in := cone[a]; in {
			for _, o := range m[a].Ops {
				t.Apply(m[a].Key, o)
			}
		}
	}
	for _, o := range p.Ops {
		if !t.May(p.Key, o) {
			return false
		}
		t.Apply(p.Key, o)
	}
	return true
}

// tree is the state's, or where it clashes.
func (m model) tree() (tree.Tree, api.Id, api.Errno) {
	var t tree.Tree
	for _, a := range m.order() {
		for _, o := range m[a].Ops {
			next, e := t.Apply(o)
			if e != api.OK {
				return tree.Tree{}, a, api.ErrClash
			}
			t = next
		}
	}
	return t, api.Id{}, api.OK
}

// wrong is what is wrong with a set, by the words.
func (m model) wrong(p api.Params, root api.Id) (api.Id, api.Errno) {
	if p.Bits < 8 || p.Bits > 256 || p.Bits%8 != 0 || p.Height < 0 || p.Height > 10 {
		return api.Id{}, api.ErrArg
	}
	order := m.order()
	for _, a := range order {
		if e := patch.Verify(p, m[a]); e != api.OK {
			return a, e
		}
	}
	for _, a := range order {
		if !m.may(root, m[a]) {
			return a, api.ErrRight
		}
	}
	_, a, e := m.tree()
	return a, e
}

// report is what is told of a sound set, by the words.
func (m model) report(p api.Params, root api.Id, frames int) audit.Report {
	ids := m.ids()
	top := rootOf(ids)
	x := audit.Report{Params: p, Root: root, Frames: frames, Patches: len(ids), Tally: tallyOf(ids)}
	x.Sum = tagged("set", string(binary.BigEndian.AppendUint64(nil, uint64(len(ids)))), string(top[:]))
	t, _, _ := m.tree()
	var parts []string
	for _, f := range t.Files() {
		text := ""
		for _, s := range f.Lines {
			text += s + "\n"
		}
		parts = append(parts, f.Path, text)
	}
	x.Tree = tagged("tree", parts...)
	return x
}

// answer is what a call tells.
type answer struct {
	x audit.Report
	a api.Id
	e api.Errno
}

// of, audited and bundled are what the calls tell.
func of(p api.Params, root api.Id, s *state.Set, frames int) answer {
	x, a, e := audit.Of(p, root, s, frames)
	return answer{x, a, e}
}

func audited(s string) answer {
	x, a, e := audit.Audit(s)
	return answer{x, a, e}
}

func bundled(p api.Params, root api.Id, s string) answer {
	x, a, e := audit.Bundle(p, root, s)
	return answer{x, a, e}
}

// answer is what is to be told of a set.
func (m model) answer(p api.Params, root api.Id, frames int) answer {
	if a, e := m.wrong(p, root); e != api.OK {
		return answer{audit.Report{}, a, e}
	}
	return answer{m.report(p, root, frames), api.Id{}, api.OK}
}

// is holds an answer against what it is to be.
func is(t *testing.T, got, want answer) {
	t.Helper()
	if got != want {
		t.Fatalf("%v, not %v", got, want)
	}
}

// fails holds an answer against an error that has nothing beside it.
func fails(t *testing.T, got answer, want api.Errno) {
	t.Helper()
	is(t, got, answer{e: want})
}

// number is a number, written.
func number(v int) string { return string(binary.AppendUvarint(nil, uint64(v))) }

// rowOf are the bytes of frames, by the words.
func rowOf(l ...journal.Frame) string {
	var s strings.Builder
	chain := tagged("journal")
	for _, f := range l {
		chain = tagged("frame", string(chain[:]), string([]byte{byte(f.Kind)}), f.Payload)
		s.WriteString("\x4a" + string([]byte{byte(f.Kind)}) + number(len(f.Payload)) + f.Payload + string(chain[:8]))
	}
	return s.String()
}

// frame is one of a kind, with a payload.
func frame(kind int, payload string) journal.Frame {
	return journal.Frame{Kind: kind, Payload: payload}
}

// start is a store's first frame.
func start(p api.Params, root api.Id) journal.Frame {
	return frame(1, number(p.Bits)+number(p.Height)+string(root[:]))
}

// counter is a counter's frame.
func counter(key api.Id, n int) journal.Frame { return frame(3, string(key[:])+number(n)) }

// bytesOf is the bundle of patches, as they stand, by the words.
func bytesOf(t *testing.T, l ...api.Patch) string {
	t.Helper()
	s := "QC1" + number(len(l))
	for _, p := range l {
		b, e := patch.Bytes(p)
		told(t, e, api.OK)
		s += number(len(b)) + b
	}
	return s
}

// bundleOf is the frame of patches.
func bundleOf(t *testing.T, l ...api.Patch) journal.Frame {
	t.Helper()
	return frame(2, bytesOf(t, l...))
}

// made is the set of patches.
func made(t *testing.T, l ...api.Patch) *state.Set {
	t.Helper()
	s, e := state.New(l)
	told(t, e, api.OK)
	return s
}

// grown are so many patches by some seeds that hang on one another; some are wrong, but in several rows none is.
func grown(t *testing.T, r *rand.Rand, n int) []api.Patch {
	t.Helper()
	var l []api.Patch
	lenient, root := r.Intn(3) == 0, keyOf(t, "r")
	for tries := 0; len(l) < n; tries++ {
		var below []api.Patch
		for i, p := range l {
			if r.Intn(4) == 0 || i == len(l)-1 && r.Intn(3) > 0 {
				below = append(below, p)
			}
		}
		var ops []api.Op
		for range 1 + r.Intn(2) {
			s := []string{"a", "b", "c/d", "e"}[r.Intn(4)]
			ops = append(ops, []api.Op{create(s), give(s, keyOf(t, "o"), r.Intn(3)), {Kind: api.Edit, Path: s, New: []string{"x", strconv.Itoa(n)}}, {Kind: api.Revoke, Path: s, Key: keyOf(t, "o")}}[r.Intn(4)])
		}
		p := with(t, par, []string{"r", "r", "r", "o"}[r.Intn(4)], r.Intn(8), strconv.Itoa(r.Intn(1<<30)), below, ops...)
		if r.Intn(12) == 0 {
			p = spoilt(p, r.Intn(3) > 0)
		}
		all := append(slices.Clone(l), p)
		if _, e := modelOf(t, all).wrong(par, root); e == api.OK || lenient && r.Intn(3) == 0 || tries > 60 {
			l = all
		}
	}
	return l
}

// frames are those of a store of patches, some of which come in one bundle, with counters between.
func frames(t *testing.T, r *rand.Rand, root api.Id, l []api.Patch) []journal.Frame {
	t.Helper()
	rows, n := []journal.Frame{start(par, root)}, 0
	for len(l) > 0 {
		k := 1 + r.Intn(len(l))
		rows, l = append(rows, bundleOf(t, mixed(r, l[:k])...)), l[k:]
		if r.Intn(3) == 0 && n < 8 {
			n++
			rows = append(rows, counter(root, n))
		}
	}
	return rows
}

// P29.1, P29.2. Sets, bundles and bytes of patches with all kinds of wrongs, and without, held against the words: they are told to be sound just if they are.
func TestReports(t *testing.T) {
	r := rand.New(rand.NewSource(29))
	seen := map[api.Errno]int{}
	for range 300 {
		l := grown(t, r, r.Intn(7))
		m := modelOf(t, l)
		for _, root := range []api.Id{keyOf(t, "r"), keyOf(t, "o"), {}} {
			n := []int{0, 1, 7, -3, math.MinInt, math.MaxInt}[r.Intn(6)]
			want := m.answer(par, root, n)
			seen[want.e]++
			is(t, of(par, root, made(t, mixed(r, l)...), n), want)
			is(t, bundled(par, root, bytesOf(t, mixed(r, l)...)), m.answer(par, root, 0))
			rows := frames(t, r, root, l)
			is(t, audited(rowOf(rows...)), m.answer(par, root, len(rows)))
			fails(t, audited(rowOf(rows...)+"J"), api.ErrForm)
		}
	}
	for _, e := range []api.Errno{api.OK, api.ErrSign, api.ErrForm, api.ErrRight, api.ErrClash} {
		if seen[e] < 10 {
			t.Errorf("%d: %d of %v", e, seen[e], seen)
		}
	}
}

// P29.1. Nothing at all: no bytes are no repository (the example), but the empty set, and its bundle, are sound, whatever the root is.
func TestEmpty(t *testing.T) {
	fails(t, audited(""), api.ErrForm)
	for _, p := range []api.Params{par, {Bits: 8}, {Bits: 256, Height: 10}} {
		for _, root := range []api.Id{{}, {1}, keyOf(t, "r")} {
			want := answer{x: audit.Report{Params: p, Root: root, Sum: tagged("set", strings.Repeat("\x00", 8), string(none[:])), Tree: tagged("tree"), Tally: 1}}
			is(t, of(p, root, made(t), 0), want)
			is(t, bundled(p, root, "QC1\x00"), want)
			want.x.Frames = 1
			is(t, of(p, root, made(t), 1), want)
			is(t, audited(rowOf(start(p, root))), want)
		}
	}
}

// none is the root of no ids.
var none = tagged("none")

// P29.1. Params that aren't right are told ahead of all that is wrong with a set, but behind patches that are none.
func TestParams(t *testing.T) {
	root := keyOf(t, "r")
	l := row(t, 2)
	for _, p := range []api.Params{{}, {Bits: 7, Height: 3}, {Bits: 12, Height: 3}, {Bits: 264}, {Bits: -8, Height: 3}, {Bits: 8, Height: -1}, {Bits: 8, Height: 11}, {Bits: math.MaxInt, Height: math.MinInt}} {
		for _, some := range [][]api.Patch{nil, l, {spoilt(l[0], true)}, {with(t, par, "o", 0, "", nil, create("a"))}} {
			fails(t, of(p, root, made(t, some...), 4), api.ErrArg)
			fails(t, bundled(p, root, bytesOf(t, some...)), api.ErrArg)
		}
		fails(t, bundled(p, root, ""), api.ErrShort)
		fails(t, bundled(p, root, bytesOf(t, l[1])), api.ErrDeps)
		if p.Bits >= 0 && p.Height >= 0 {
			fails(t, audited(rowOf(start(p, root))), api.ErrForm)
			fails(t, audited(rowOf(start(p, root), bundleOf(t, l...))), api.ErrForm)
		}
	}
	// By other params that are right the signatures fit no more.
	for _, p := range []api.Params{{Bits: 16, Height: 3}, {Bits: 8, Height: 2}} {
		want := answer{a: idOf(t, l[0]), e: api.ErrForm}
		is(t, of(p, root, made(t, l...), 4), want)
		is(t, bundled(p, root, bytesOf(t, l...)), want)
		is(t, audited(rowOf(start(p, root), bundleOf(t, l...))), want)
	}
}

// P29.1. What a bundle's bytes are refused for ahead of its set, without a patch beside it.
func TestBundleErrors(t *testing.T) {
	root, l := keyOf(t, "r"), row(t, 3)
	good := bytesOf(t, l...)
	bad := spoilt(l[0], true)
	for _, x := range []struct {
		s string
		e api.Errno
	}{
		{"", api.ErrShort}, {"QC", api.ErrShort}, {"QC2\x00", api.ErrForm}, {"QC1", api.ErrShort}, {"QC1\x00\x00", api.ErrForm}, {"QC1\x01\x00", api.ErrShort}, {good[:len(good)-1], api.ErrShort}, {good + "\x00", api.ErrForm}, {"QC1\xe9\x07", api.ErrLong}, {"QC1\x02" + good[4:], api.ErrForm}, {"QC1\x04" + good[4:], api.ErrShort},
		{strings.Repeat("x", api.MaxBytes+1), api.ErrLong}, {strings.Repeat("x", api.MaxBytes), api.ErrForm},
		{bytesOf(t, l[0], l[0]), api.ErrSame}, {bytesOf(t, bad, l[1], l[1], l[0]), api.ErrSame}, {bytesOf(t, bad, l[1]), api.ErrDeps}, {bytesOf(t, l[2], l[0]), api.ErrDeps}, {bytesOf(t, l[0]) + "QC1", api.ErrForm},
	} {
		for _, p := range []api.Params{par, {}} {
			fails(t, bundled(p, root, x.s), x.e)
		}
	}
	for i := range good {
		if x := bundled(par, root, good[:i]); x.e != api.ErrShort || x != (answer{e: x.e}) {
			t.Fatal(i, x)
		}
	}
	is(t, bundled(par, root, good), modelOf(t, l).answer(par, root, 0))
}

// P29.1. The patch that is told is the first one in the set's order, wherever it stands in its bundle.
func TestFirst(t *testing.T) {
	root := keyOf(t, "r")
	for _, make := range []func(i int) api.Patch{
		func(i int) api.Patch {
			return spoilt(with(t, par, "r", i, "", nil, create("p"+strconv.Itoa(i))), true)
		},
		func(i int) api.Patch { return with(t, par, "o", i, "", nil, create("p"+strconv.Itoa(i))) },
		func(i int) api.Patch {
			return with(t, par, "r", i, "", nil, api.Op{Kind: api.Remove, Path: "p" + strconv.Itoa(i)})
		},
	} {
		var l []api.Patch
		for i := range 8 {
			l = append(l, make(i))
		}
		m := modelOf(t, l)
		want := answer{a: m.ids()[0], e: m.answer(par, root, 0).e}
		for range 2 {
			slices.Reverse(l)
			is(t, of(par, root, made(t, l...), 5), want)
			is(t, bundled(par, root, bytesOf(t, l...)), want)
			is(t, audited(rowOf(start(par, root), bundleOf(t, l[:3]...), bundleOf(t, l[3:]...))), want)
		}
	}
}

// P29.1. Frames that are clean, but no store's, and bytes that aren't clean.
func TestNoStore(t *testing.T) {
	root, l := keyOf(t, "r"), row(t, 2)
	first, all := start(par, root), bundleOf(t, l...)
	for _, rows := range [][]journal.Frame{
		{all}, {all, first}, {first, first}, {first, all, all}, {first, bundleOf(t, l[1])}, {first, bundleOf(t, l[1]), bundleOf(t, l[0])}, {first, frame(4, "")}, {first, all, frame(255, "x")}, {first, frame(2, "QC1\x00")}, {first, counter(root, 9)}, {first, counter(root, 0)}, {first, counter(root, 2), counter(root, 2)}, {frame(1, first.Payload+"\x00")}, {frame(9, "x")},
	} {
		fails(t, audited(rowOf(rows...)), api.ErrForm)
	}
	good := rowOf(first, bundleOf(t, l[0]), counter(root, 8), bundleOf(t, l[1]))
	for _, s := range []string{"J", "x", good, rowOf(first), "\x00"} {
		fails(t, audited(good+s), api.ErrForm)
		fails(t, audited(s[:1]+good), api.ErrForm)
	}
	is(t, audited(good), modelOf(t, l).answer(par, root, 4))
}

// P29.1, P29.2. Each byte of a repository that is changed, and each cut, is told: what is left is sound just where whole frames are.
func TestEachByte(t *testing.T) {
	root, l := keyOf(t, "r"), row(t, 2)
	rows := []journal.Frame{start(par, root), counter(root, 1), bundleOf(t, l[0]), counter(root, 2), bundleOf(t, l[1])}
	whole := map[int]answer{}
	for n := 1; n <= len(rows); n++ {
		some := l[:max(n-1, 0)/2]
		whole[len(rowOf(rows[:n]...))] = modelOf(t, some).answer(par, root, n)
	}
	all := rowOf(rows...)
	for n := range len(all) + 1 {
		want, ok := whole[n]
		if !ok {
			want = answer{e: api.ErrForm}
		}
		is(t, audited(all[:n]), want)
		if n < len(all) {
			b := []byte(all)
			b[n] ^= 1 << (n % 8)
			fails(t, audited(string(b)), api.ErrForm)
		}
	}
}

// filled are two patches whose files, but for one, have as many bytes as they may, and the bytes of a store with them; that one has so many lines, and the second patch's note so many bytes.
func filled(t *testing.T, lines, note int) ([]api.Patch, string) {
	t.Helper()
	ops := func(from, to, lines int) []api.Op {
		var l []api.Op
		for i := from; i < to; i++ {
			path := "f" + strconv.Itoa(100+i)
			l = append(l, create(path), api.Op{Kind: api.Edit, Path: path, New: slices.Repeat([]string{strings.Repeat("x", 200)}, lines)})
		}
		return l
	}
	one := with(t, par, "r", 0, "", nil, ops(0, 15, 1000)...)
	two := with(t, par, "r", 1, strings.Repeat("n", note), []api.Patch{one}, append(ops(15, 20, 1000), ops(20, 21, lines)...)...)
	return []api.Patch{one, two}, rowOf(start(par, keyOf(t, "r")), bundleOf(t, one), bundleOf(t, two))
}

// P29.1. As many bytes as may be are told, whatever they are; one more is too long.
func TestLong(t *testing.T) {
	fails(t, audited(strings.Repeat("J", api.MaxBytes)), api.ErrForm)
	fails(t, audited(strings.Repeat("J", api.MaxBytes+1)), api.ErrLong)
	_, s := filled(t, 500, 150)
	// A line of 200 bytes is written as 202.
	more := api.MaxBytes - len(s)
	l, s := filled(t, 500+more/202, 150+more%202)
	if len(s) != api.MaxBytes {
		t.Fatal(len(s) - api.MaxBytes)
	}
	is(t, audited(s), modelOf(t, l).answer(par, keyOf(t, "r"), 3))
	fails(t, audited(s[:len(s)-1]), api.ErrForm)
	fails(t, audited(s+"J"), api.ErrLong)
}

// P29.1, P29.2. A store's bytes, as they grow, come to the report of its set.
func TestStore(t *testing.T) {
	root, l := keyOf(t, "r"), row(t, 6)
	d := disk.New()
	s, e := store.Create(d, par, root)
	told(t, e, api.OK)
	for i, p := range l {
		told(t, s.Raise(root, i+1), api.OK)
		is(t, audited(d.All()), of(par, root, s.Set(), s.Frames()))
		_, e := s.Put([]api.Patch{p})
		told(t, e, api.OK)
		is(t, audited(d.All()), modelOf(t, l[:i+1]).answer(par, root, s.Frames()))
	}
	// Whether patches are sound is asked here, not there.
	bad := with(t, par, "o", 0, "", l, create("x"))
	_, e = s.Put([]api.Patch{bad})
	told(t, e, api.OK)
	is(t, audited(d.All()), answer{a: idOf(t, bad), e: api.ErrRight})
}

// P29.1. Reports are the same whatever their frames are, but if anything else is unlike they aren't.
func TestSame(t *testing.T) {
	base := audit.Report{Params: par, Root: api.Id{1}, Frames: 3, Patches: 1, Sum: api.Id{2}, Tree: api.Id{3}, Tally: 4 + 5i}
	for _, n := range []int{0, 3, 4, -1, math.MinInt, math.MaxInt} {
		x := base
		x.Frames = n
		if !audit.Same(base, x) || !audit.Same(x, base) || x.Frames != n || base.Frames != 3 {
			t.Error(n)
		}
	}
	for i, change := range []func(x *audit.Report){
		func(x *audit.Report) { x.Params.Bits++ },
		func(x *audit.Report) { x.Params.Height-- },
		func(x *audit.Report) { x.Root[31]++ },
		func(x *audit.Report) { x.Patches++ },
		func(x *audit.Report) { x.Sum[0]++ },
		func(x *audit.Report) { x.Sum[31]++ },
		func(x *audit.Report) { x.Tree[15]++ },
		func(x *audit.Report) { x.Tally++ },
		func(x *audit.Report) { x.Tally += 1i },
		func(x *audit.Report) { x.Tally = complex(imag(x.Tally), real(x.Tally)) },
		func(x *audit.Report) { *x = audit.Report{} },
	} {
		for _, n := range []int{3, 0} {
			x := base
			change(&x)
			x.Frames = n
			if audit.Same(base, x) || audit.Same(x, base) || !audit.Same(x, x) {
				t.Error(i, x)
			}
		}
	}
	if !audit.Same(audit.Report{}, audit.Report{Frames: 1}) {
		t.Error("zeros")
	}
	// Which sign 0 has makes no difference.
	minus := math.Copysign(0, -1)
	if !audit.Same(audit.Report{Tally: complex(0, 1)}, audit.Report{Tally: complex(minus, 1)}) {
		t.Error("signs")
	}
}

// P29.1, P29.2. The same patches come to the same report, in whatever order and bundles they came; others don't.
func TestAlike(t *testing.T) {
	r := rand.New(rand.NewSource(291))
	root, alike := keyOf(t, "r"), 0
	for range 100 {
		l := grown(t, r, 1+r.Intn(5))
		x := of(par, root, made(t, l...), 9)
		if x.e != api.OK {
			continue
		}
		alike++
		for range 3 {
			y, z := audited(rowOf(frames(t, r, root, l)...)), bundled(par, root, bytesOf(t, mixed(r, l)...))
			if !audit.Same(x.x, y.x) || !audit.Same(y.x, z.x) || z.x.Frames != 0 || y.x.Frames < 2 {
				t.Fatalf("%v, %v, %v", x, y, z)
			}
		}
		fewer := of(par, root, made(t, l[:len(l)-1]...), 9)
		if fewer.e != api.OK || audit.Same(x.x, fewer.x) {
			t.Fatalf("%v, %v", x, fewer)
		}
	}
	if alike < 30 {
		t.Error(alike)
	}
}

// P29.1. A set that is looked at stays as it was.
func TestMemory(t *testing.T) {
	root, l := keyOf(t, "r"), row(t, 3)
	s := made(t, l...)
	was := s.Order()
	for range 2 {
		is(t, of(par, root, s, 1), modelOf(t, l).answer(par, root, 1))
		is(t, of(par, api.Id{}, s, 1), answer{a: was[0].Id, e: api.ErrRight})
		fails(t, of(api.Params{}, root, s, 1), api.ErrArg)
		if !reflect.DeepEqual(s.Order(), was) {
			t.Fatal(brief(s.Order()))
		}
	}
}

// P29.2. Of any bytes, as they are, and behind frames of a store: each call ends, and what is told of bytes holds.
func FuzzAudit(f *testing.F) {
	f.Add("")
	f.Add(rowOf(start(par, api.Id{1})))
	f.Add("QC1\x00")
	f.Fuzz(func(t *testing.T, b string) {
		for _, s := range []string{b, rowOf(start(par, api.Id{1}), frame(2, b)), rowOf(start(par, api.Id{1}), frame(3, b))} {
			x, a, e := audit.Audit(s)
			if e != api.OK && x != (audit.Report{}) || e == api.OK && (a != api.Id{} || x.Frames == 0 || x.Tally == 0) {
				t.Fatal(x, a, e)
			}
			d := disk.New()
			if d.Write(0, s) != api.OK {
				continue
			}
			u, f := store.Open(d)
			if f == api.OK && d.All() == s {
				is(t, answer{x, a, e}, of(u.Params(), u.Root(), u.Set(), u.Frames()))
			} else if e == api.OK {
				t.Fatal(f, d.Len())
			}
		}
		bundled(par, api.Id{1}, b)
	})
}
