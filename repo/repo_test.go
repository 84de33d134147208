package repo_test

import (
	"crypto/sha256"
	"encoding/binary"
	"fmt"
	"maps"
	"math"
	"math/rand"
	"reflect"
	"slices"
	"strconv"
	"strings"
	"testing"

	"quitclaim/api"
	"quitclaim/audit"
	"quitclaim/disk"
	"quitclaim/grant"
	"quitclaim/journal"
	"quitclaim/keytree"
	"quitclaim/merkle"
	"quitclaim/patch"
	"quitclaim/repo"
	"quitclaim/signer"
	"quitclaim/state"
	"quitclaim/tree"
)

// par are the params of most repositories: a key has four leaves.
var par = api.Params{Bits: 8, Height: 2}

// brief is the beginning of a value's text.
func brief(v any) string {
	s := fmt.Sprint(v)
	return s[:min(len(s), 300)]
}

// told holds an error against what it is to be.
func told(t *testing.T, got, want api.Errno) {
	t.Helper()
	if got != want {
		t.Fatalf("%d, not %d", got, want)
	}
}

// create is a Create.
func create(s string) api.Op { return api.Op{Kind: api.Create, Path: s} }

// remove is a Remove of a file without lines.
func remove(s string) api.Op { return api.Op{Kind: api.Remove, Path: s} }

// give is a Grant to a seed's key.
func give(t *testing.T, s, seed string, depth int) api.Op {
	t.Helper()
	return api.Op{Kind: api.Grant, Path: s, Key: keyOf(t, seed), Depth: depth}
}

// keys are those of seeds that were asked for already.
var keys = map[string]api.Id{}

// keyOf is a seed's key.
func keyOf(t *testing.T, seed string) api.Id {
	t.Helper()
	if _, known := keys[seed]; !known {
		k, e := keytree.Of(par, seed)
		told(t, e, api.OK)
		keys[seed] = k
	}
	return keys[seed]
}

// idOf is a patch's id.
func idOf(t *testing.T, p api.Patch) api.Id {
	t.Helper()
	a, e := patch.Id(p)
	if e != api.OK {
		t.Fatalf("%s: %d", brief(p), e)
	}
	return a
}

// with is a patch that a leaf of a seed's key signed, on top of others.
func with(t *testing.T, seed string, leaf int, note string, below []api.Patch, ops ...api.Op) api.Patch {
	t.Helper()
	var deps []api.Id
	for _, q := range below {
		deps = append(deps, idOf(t, q))
	}
	return signed(t, par, seed, leaf, deps, note, ops)
}

// signed is a patch that a leaf of a seed's key signed, on top of ids.
func signed(t *testing.T, p api.Params, seed string, leaf int, deps []api.Id, note string, ops []api.Op) api.Patch {
	t.Helper()
	s, e := signer.New(p, seed, leaf)
	told(t, e, api.OK)
	x, e := patch.Make(s, deps, note, ops)
	if e != api.OK {
		t.Fatal(brief(ops), e)
	}
	return x
}

// spoilt is a patch that its key didn't sign.
func spoilt(p api.Patch) api.Patch {
	p = patch.Clone(p)
	p.Sign.Hidden[2][7]++
	return p
}

// mixed are patches in another order.
func mixed(r *rand.Rand, l []api.Patch) []api.Patch {
	l = slices.Clone(l)
	r.Shuffle(len(l), func(i, j int) { l[i], l[j] = l[j], l[i] })
	return l
}

// tagged is a tagged sum, by the words.
func tagged(name string, parts ...string) string {
	b := append([]byte{byte(len(name))}, name...)
	for _, p := range parts {
		b = binary.BigEndian.AppendUint64(b, uint64(len(p)))
		b = append(b, p...)
	}
	sum := sha256.Sum256(b)
	return string(sum[:])
}

// number is a number, written.
func number(v int) string { return string(binary.AppendUvarint(nil, uint64(v))) }

// rowOf are the bytes of frames, by the words.
func rowOf(l ...journal.Frame) string {
	var s strings.Builder
	chain := tagged("journal")
	for _, f := range l {
		chain = tagged("frame", chain, string([]byte{byte(f.Kind)}), f.Payload)
		s.WriteString("\x4a" + string([]byte{byte(f.Kind)}) + number(len(f.Payload)) + f.Payload + chain[:8])
	}
	return s.String()
}

// frame is one of a kind, with a payload.
func frame(kind int, payload string) journal.Frame {
	return journal.Frame{Kind: kind, Payload: payload}
}

// start is a store's first frame.
func start(p api.Params, root api.Id) journal.Frame {
	return frame(1, number(p.Bits)+number(p.Height)+string(root[:]))
}

// counter is a counter's frame.
func counter(key api.Id, n int) journal.Frame { return frame(3, string(key[:])+number(n)) }

// bytesOf is the bundle of patches, as they stand, by the words.
func bytesOf(t *testing.T, l ...api.Patch) string {
	t.Helper()
	s := "QC1" + number(len(l))
	for _, p := range l {
		b, e := patch.Bytes(p)
		told(t, e, api.OK)
		s += number(len(b)) + b
	}
	return s
}

// on is a disk with some bytes, that are synced.
func on(t *testing.T, s string) *disk.Disk {
	t.Helper()
	d := disk.New()
	told(t, d.Write(0, s), api.OK)
	told(t, d.Sync(), api.OK)
	return d
}

// off is a disk with some bytes, without power.
func off(t *testing.T, s string) *disk.Disk {
	t.Helper()
	d := on(t, s)
	d.Crash(0, 0)
	return d
}

// model is a repository by the words: its frames, and what they say.
type model struct {
	par      api.Params
	root     api.Id
	rows     []journal.Frame
	patches  []api.Patch
	counters map[api.Id]int
}

// fresh is that of a repository without patches.
func fresh(t *testing.T, seed string) *model {
	t.Helper()
	return freshOf(par, keyOf(t, seed))
}

// freshOf is that of a repository of some params, and a root.
func freshOf(p api.Params, root api.Id) *model {
	return &model{par: p, root: root, rows: []journal.Frame{start(p, root)}}
}

// raised is a model with one more counter.
func (m *model) raised(key api.Id, n int) *model {
	u := *m
	u.rows, u.counters = append(slices.Clone(m.rows), counter(key, n)), map[api.Id]int{}
	maps.Copy(u.counters, m.counters)
	u.counters[key] = n
	return &u
}

// put is a model with one more bundle of patches, as these stand.
func (m *model) put(t *testing.T, l ...api.Patch) *model {
	t.Helper()
	u := *m
	u.rows, u.patches = append(slices.Clone(m.rows), frame(2, bytesOf(t, l...))), append(slices.Clone(m.patches), l...)
	return &u
}

// bytes are those of a model's frames.
func (m *model) bytes() string { return rowOf(m.rows...) }

// set is that of all patches.
func (m *model) set(t *testing.T) *state.Set {
	t.Helper()
	s, e := state.New(m.patches)
	told(t, e, api.OK)
	return s
}

// next is the next leaf of a key.
func (m *model) next(key api.Id) int {
	n := m.counters[key]
	for _, p := range m.patches {
		if p.Key == key {
			n = max(n, p.Sign.Leaf+1)
		}
	}
	return n
}

// table is that of all patches.
func (m *model) table(t *testing.T) *grant.Table {
	t.Helper()
	x := grant.New(m.root)
	for _, p := range m.set(t).Patches() {
		for _, o := range p.Ops {
			x.Apply(p.Key, o)
		}
	}
	return x
}

// tree is the state's.
func (m *model) tree(t *testing.T) tree.Tree {
	t.Helper()
	var x tree.Tree
	for _, p := range m.set(t).Patches() {
		next, _, e := x.All(p.Ops)
		told(t, e, api.OK)
		x = next
	}
	return x
}

// refused is why operations by a seed aren't recorded, by the words; a disk, and a store that is broken, aren't looked at.
func (m *model) refused(t *testing.T, seed, note string, ops []api.Op) api.Errno {
	t.Helper()
	key := keyOf(t, seed)
	if e := patch.Right(api.Patch{Deps: m.set(t).Graph().Heads(), Key: key, Note: note, Ops: ops}); e != api.OK {
		return e
	}
	if m.next(key) >= 1<<m.par.Height {
		return api.ErrSpent
	}
	may, files := m.table(t), m.tree(t)
	for _, o := range ops {
		if !may.May(key, o) {
			return api.ErrRight
		}
		may.Apply(key, o)
	}
	for _, o := range ops {
		next, e := files.Apply(o)
		if e != api.OK {
			return api.ErrClash
		}
		files = next
	}
	return api.OK
}

// patch is what operations by a seed are recorded as.
func (m *model) patch(t *testing.T, seed, note string, ops []api.Op) api.Patch {
	t.Helper()
	return signed(t, m.par, seed, m.next(keyOf(t, seed)), m.set(t).Graph().Heads(), note, ops)
}

// recorded is a model behind a Record.
func (m *model) recorded(t *testing.T, seed, note string, ops ...api.Op) *model {
	t.Helper()
	told(t, m.refused(t, seed, note, ops), api.OK)
	p := m.patch(t, seed, note, ops)
	return m.raised(p.Key, p.Sign.Leaf+1).put(t, p)
}

// seeds are those whose keys are asked for.
var seeds = []string{"r", "o", "q", ""}

// alike tells whether two entries of a set are one.
func alike(a, b state.Entry) bool { return a.Id == b.Id && patch.Same(a.Patch, b.Patch) }

// says holds all that a repository tells against a model.
func says(t *testing.T, r *repo.Repo, m *model, broken bool) {
	t.Helper()
	s := r.Store()
	if s.Params() != m.par || s.Root() != m.root || s.Frames() != len(m.rows) || s.Broken() != broken {
		t.Fatalf("%v, %x, %d, %v, not %v, %x, %d, %v", s.Params(), s.Root(), s.Frames(), s.Broken(), m.par, m.root, len(m.rows), broken)
	}
	set := m.set(t)
	if !slices.EqualFunc(r.Log(), set.Order(), alike) || !slices.EqualFunc(s.Set().Order(), set.Order(), alike) {
		t.Fatalf("%s, not %s", brief(r.Log()), brief(set.Order()))
	}
	if got, want := r.Checkout(), m.tree(t); !tree.Same(got, want) || got.Sum() != want.Sum() {
		t.Fatalf("%v, not %v", got.Files(), want.Files())
	}
	if want, _ := merkle.Sum(set.Ids()); r.Digest() != want {
		t.Fatalf("%x, not %x", r.Digest(), want)
	}
	if got, want := r.Export(), bytesOf(t, set.Patches()...); got != want {
		t.Fatalf("%.200q, not %.200q", got, want)
	}
	want, _, e := audit.Of(m.par, m.root, set, len(m.rows))
	told(t, e, api.OK)
	if got, e := r.Audit(); got != want || e != api.OK {
		t.Fatalf("%v, %d, not %v", got, e, want)
	}
	proves(t, r, set.Ids())
	for key, n := range m.counters {
		if s.Counter(key) != n {
			t.Fatalf("%x: %d, not %d", key, s.Counter(key), n)
		}
	}
	if m.par == par {
		leaves(t, r, m)
	}
}

// proves holds proofs, of some ids, against a set's.
func proves(t *testing.T, r *repo.Repo, ids []api.Id) {
	t.Helper()
	for _, a := range append([]api.Id{{}, {0: 0x80}, {0: 0xff, 31: 1}}, ids[:min(len(ids), 3)]...) {
		want, _ := merkle.Prove(ids, a)
		p := r.Prove(a)
		in, ok := merkle.Check(r.Digest(), a, p)
		if !ok || in != slices.Contains(ids, a) || !reflect.DeepEqual(p, want) {
			t.Fatalf("%x: %s, %v, %v", a, brief(p), in, ok)
		}
	}
}

// leaves holds the next leaves of some seeds' keys against a model.
func leaves(t *testing.T, r *repo.Repo, m *model) {
	t.Helper()
	for _, seed := range seeds {
		if got, want := r.Next(seed), m.next(keyOf(t, seed)); got != want {
			t.Fatalf("%q: %d, not %d", seed, got, want)
		}
	}
}

// asked holds what some seeds' keys may do against a model.
func asked(t *testing.T, r *repo.Repo, m *model) {
	t.Helper()
	may := m.table(t)
	for _, seed := range seeds {
		for _, o := range []api.Op{
			create("a"), create("lib/a"), create("lib"), create("lib/sub/a"), {Kind: api.Move, Path: "lib/a", To: "b"}, {Kind: api.Edit, Path: "lib/a"}, {Kind: api.Edit, Path: "lib/a", New: []string{"x"}}, give(t, "lib", "q", 0), give(t, "lib/sub", "q", 1), give(t, "", "o", 8), give(t, "", "o", 9), {Kind: api.Revoke, Path: "lib", Key: keyOf(t, "o")}, {Kind: api.Revoke, Key: keyOf(t, "q")}, {Kind: 7, Path: "a"}, {},
		} {
			if got, want := r.May(seed, o), may.May(keyOf(t, seed), o); got != want {
				t.Fatalf("%q, %v: %v, not %v", seed, o, got, want)
			}
		}
	}
}

// is holds a repository, its disk, and what it is when it is opened anew, against a model.
func is(t *testing.T, r *repo.Repo, d *disk.Disk, m *model) {
	t.Helper()
	says(t, r, m, false)
	if r.Store().Disk() != d || d.All() != m.bytes() || d.Kept() != m.bytes() || d.Waiting() != 0 {
		t.Fatalf("%.200q, not %.200q", d.All(), m.bytes())
	}
	u, e := repo.Open(d.Copy())
	told(t, e, api.OK)
	says(t, u, m, false)
	if x, _, e := audit.Audit(d.All()); e != api.OK || !audit.Same(x, audited(t, r)) {
		t.Fatal(x, e)
	}
}

// audited is a repository's report.
func audited(t *testing.T, r *repo.Repo) audit.Report {
	t.Helper()
	x, e := r.Audit()
	told(t, e, api.OK)
	return x
}

// begun is a fresh repository of a seed.
func begun(t *testing.T, seed string) (*repo.Repo, *disk.Disk, *model) {
	t.Helper()
	d, m := disk.New(), fresh(t, seed)
	r, e := repo.Init(d, par, seed)
	told(t, e, api.OK)
	return r, d, m
}

// opened is the repository of a disk, that is as a model.
func opened(t *testing.T, d *disk.Disk, m *model) *repo.Repo {
	t.Helper()
	r, e := repo.Open(d)
	told(t, e, api.OK)
	is(t, r, d, m)
	return r
}

// records looks what comes of recording operations that are well.
func records(t *testing.T, r *repo.Repo, m *model, seed, note string, ops ...api.Op) *model {
	t.Helper()
	u := m.recorded(t, seed, note, ops...)
	a, e := r.Record(seed, note, ops)
	if e != api.OK || a != idOf(t, u.patches[len(u.patches)-1]) {
		t.Fatalf("%s: %x, %d", brief(ops), a, e)
	}
	is(t, r, r.Store().Disk(), u)
	return u
}

// refuses looks whether operations aren't recorded, by an error, and all stays as it was.
func refuses(t *testing.T, r *repo.Repo, m *model, want api.Errno, seed, note string, ops ...api.Op) {
	t.Helper()
	if a, e := r.Record(seed, note, ops); a != (api.Id{}) || e != want {
		t.Fatalf("%q, %s: %x, %d, not %d", seed, brief(ops), a, e, want)
	}
	is(t, r, r.Store().Disk(), m)
}

// P30.1. Records by several seeds: each hangs on all heads, is signed by the next leaf, and is told by its id; the examples among them.
func TestRecord(t *testing.T) {
	r, d, m := begun(t, "r")
	is(t, r, d, m)
	refuses(t, r, m, api.ErrRight, "o", "", create("a"))
	m = records(t, r, m, "r", "first", create("a"))
	if x := r.Checkout(); x.Len() != 1 || x.Files()[0].Path != "a" {
		t.Error(x.Files())
	}
	m = records(t, r, m, "r", "", give(t, "lib", "o", 0), create("lib/a"))
	m = records(t, r, m, "o", strings.Repeat("n", 400), create("lib/b"), api.Op{Kind: api.Edit, Path: "lib/b", New: []string{"x", "y"}})
	refuses(t, r, m, api.ErrRight, "o", "", create("b"))
	refuses(t, r, m, api.ErrRight, "o", "", create("lib/c"), create("b"))
	refuses(t, r, m, api.ErrRight, "o", "", give(t, "lib", "q", 0))
	refuses(t, r, m, api.ErrRight, "q", "", create("lib/c"))
	m = records(t, r, m, "r", "", give(t, "lib", "o", 1))
	m = records(t, r, m, "o", "", give(t, "lib/sub", "q", 0), create("lib/sub/c"))
	m = records(t, r, m, "q", "", api.Op{Kind: api.Move, Path: "lib/sub/c", To: "lib/sub/d"})
	asked(t, r, m)
	m = records(t, r, m, "r", "", api.Op{Kind: api.Revoke, Path: "lib", Key: keyOf(t, "o")}, remove("a"))
	refuses(t, r, m, api.ErrRight, "q", "", create("lib/sub/e"))
	refuses(t, r, m, api.ErrSpent, "r", "", create("z"))
	asked(t, r, m)
	asked(t, opened(t, d, m), m)
}

// P30.1. Repositories of several params and seeds; a key has as many leaves as its height tells.
func TestInit(t *testing.T) {
	for _, p := range []api.Params{{Bits: 8}, {Bits: 8, Height: 1}, {Bits: 16, Height: 3}, {Bits: 256}, {Bits: 256, Height: 2}, {Bits: 8, Height: 5}, {Bits: 8, Height: 10}} {
		for _, seed := range []string{"", "r", "a longer seed \x00\xff"} {
			root, e := keytree.Of(p, seed)
			told(t, e, api.OK)
			m := freshOf(p, root)
			d := disk.New()
			r, e := repo.Init(d, p, seed)
			told(t, e, api.OK)
			is(t, r, d, m)
			for leaf := range min(1<<p.Height, 4) {
				if n := r.Next(seed); n != leaf {
					t.Fatal(n, leaf)
				}
				ops := []api.Op{create("f" + strconv.Itoa(leaf))}
				x := signed(t, p, seed, leaf, m.set(t).Graph().Heads(), "", ops)
				a, e := r.Record(seed, "", ops)
				if e != api.OK || a != idOf(t, x) {
					t.Fatal(a, e)
				}
				m = m.raised(root, leaf+1).put(t, x)
			}
			is(t, r, d, m)
			if p.Height <= 2 {
				refuses(t, r, m, api.ErrSpent, seed, "", create("more"))
			}
		}
	}
}

// some are bytes that are no frame, or begin one.
func some(t *testing.T) []string {
	t.Helper()
	all := fresh(t, "r").bytes()
	return []string{"x", "J", "garbage", all[:1], all[:len(all)-1], all[1:], rowOf(frame(9, "x"))[:11]}
}

// noInit looks whether a repository isn't begun, by an error, and the disk stays as it was.
func noInit(t *testing.T, d *disk.Disk, p api.Params, want api.Errno) {
	t.Helper()
	var was disk.Disk
	if d != nil {
		was = *d.Copy()
	}
	if r, e := repo.Init(d, p, "r"); r != nil || e != want {
		t.Fatalf("%v: %v, %d, not %d", p, r, e, want)
	}
	if d != nil && !reflect.DeepEqual(*d.Copy(), was) {
		t.Fatalf("%.200q, not %.200q", d.All(), was.All())
	}
}

// P30.1. What Init refuses: of several errors the one that is named first; a disk with bytes that are no frame may become a repository.
func TestInitErrors(t *testing.T) {
	frames := []string{fresh(t, "r").bytes(), rowOf(frame(2, "x")), rowOf(frame(255, ""))}
	for _, p := range []api.Params{{}, {Bits: 7}, {Bits: 12, Height: 1}, {Bits: 264}, {Bits: -8}, {Bits: 8, Height: -1}, {Bits: 8, Height: 11}, {Bits: math.MaxInt, Height: math.MinInt}} {
		noInit(t, nil, p, api.ErrArg)
		for _, s := range append(some(t), frames...) {
			noInit(t, on(t, s), p, api.ErrArg)
			noInit(t, off(t, s), p, api.ErrArg)
		}
	}
	noInit(t, nil, par, api.ErrArg)
	for _, s := range append(some(t), append(frames, "")...) {
		noInit(t, off(t, s), par, api.ErrDown)
	}
	for _, s := range frames {
		for _, more := range append(some(t), "") {
			noInit(t, on(t, s+more), par, api.ErrSame)
		}
	}
	for _, s := range append(some(t), "") {
		d := on(t, s)
		r, e := repo.Init(d, par, "r")
		told(t, e, api.OK)
		is(t, r, d, fresh(t, "r"))
	}
}

// P30.1. A crash while a repository is begun leaves none, or just that.
func TestCrashInInit(t *testing.T) {
	m := fresh(t, "r")
	for steps := range 2 {
		for mask := range uint64(2) {
			for _, count := range []int{-1, 0, 1, 20, len(m.bytes()) - 1, len(m.bytes())} {
				d := disk.New()
				d.Arm(steps, mask, count)
				if r, e := repo.Init(d, par, "r"); r != nil || e != api.ErrDown {
					t.Fatal(r, e)
				}
				d.Start()
				if d.All() == m.bytes() {
					noInit(t, d, par, api.ErrSame)
					opened(t, d, m)
					continue
				}
				noOpen(t, d, api.ErrNone)
				r, e := repo.Init(d, par, "r")
				told(t, e, api.OK)
				is(t, r, d, m)
			}
		}
	}
}

// noOpen looks whether a disk isn't opened, by an error, and stays as it was.
func noOpen(t *testing.T, d *disk.Disk, want api.Errno) {
	t.Helper()
	was := *d.Copy()
	if r, e := repo.Open(d); r != nil || e != want {
		t.Fatalf("%.200q: %v, %d, not %d", d.All(), r, e, want)
	}
	if got := *d.Copy(); !reflect.DeepEqual(got, was) {
		t.Fatalf("%.200q, not %.200q", got.All(), was.All())
	}
}

// P30.1, P30.2. What Open refuses: what is no store's, and a store's whose set isn't sound; the disk stays as it was, also where it isn't clean.
func TestOpenErrors(t *testing.T) {
	if r, e := repo.Open(nil); r != nil || e != api.ErrArg {
		t.Error(r, e)
	}
	m := fresh(t, "r")
	one := with(t, "r", 0, "", nil, create("a"))
	top := with(t, "r", 1, "", []api.Patch{one}, create("b"))
	good := m.put(t, one).put(t, top)
	for _, x := range []struct {
		l []api.Patch
		e api.Errno
	}{
		{[]api.Patch{spoilt(one)}, api.ErrSign},
		{[]api.Patch{one, spoilt(top)}, api.ErrSign},
		{[]api.Patch{{Key: one.Key, Ops: one.Ops}}, api.ErrForm},
		{[]api.Patch{with(t, "o", 0, "", nil, create("a"))}, api.ErrRight},
		{[]api.Patch{one, with(t, "r", 1, "", nil, create("a"))}, api.ErrClash},
		{[]api.Patch{one, top, with(t, "r", 2, "", []api.Patch{top}, create("b"))}, api.ErrClash},
		{[]api.Patch{one, with(t, "o", 0, "", []api.Patch{one}, create("a"))}, api.ErrRight},
		{[]api.Patch{with(t, "o", 0, "", nil, create("c")), spoilt(one)}, api.ErrSign},
	} {
		bad := m.put(t, x.l...)
		noOpen(t, on(t, bad.bytes()), x.e)
		noOpen(t, off(t, bad.bytes()), api.ErrDown)
		noOpen(t, on(t, m.raised(m.root, 3).put(t, x.l...).bytes()), x.e)
		for _, s := range some(t) {
			d := on(t, bad.bytes()+s)
			d.Arm(0, 0, 0)
			noOpen(t, d, x.e)
			told(t, d.Sync(), api.ErrDown) // no step was done
		}
	}
	for _, s := range append(some(t), "") {
		noOpen(t, on(t, s), api.ErrNone)
		noOpen(t, off(t, good.bytes()+s), api.ErrDown)
	}
	for _, l := range [][]journal.Frame{{frame(9, "x")}, {good.rows[1]}, {good.rows[0], good.rows[2]}, {m.rows[0], m.rows[0]}, append(slices.Clone(good.rows), frame(4, ""))} {
		noOpen(t, on(t, rowOf(l...)), api.ErrForm)
		noOpen(t, on(t, rowOf(l...)+"J"), api.ErrForm)
	}
	opened(t, on(t, good.bytes()), good)
}

// P30.1. A repository whose disk isn't clean is cut when it is opened, by one step; a step that fails leaves none.
func TestOpenUnclean(t *testing.T) {
	m := fresh(t, "r").recorded(t, "r", "", create("a"))
	for _, more := range append(some(t), m.bytes()) {
		d := on(t, m.bytes()+more)
		d.Arm(1, 0, 0)
		opened(t, d, m)
		told(t, d.Sync(), api.ErrDown)
		d = on(t, m.bytes()+more)
		d.Arm(0, 0, 0)
		if r, e := repo.Open(d); r != nil || e != api.ErrDown || !d.Down() || d.All() != m.bytes()+more {
			t.Fatal(r, e)
		}
		d.Start()
		records(t, opened(t, d, m), m, "r", "", create("b"))
	}
	d := on(t, m.bytes())
	d.Arm(0, 0, 0)
	opened(t, d, m)
	told(t, d.Sync(), api.ErrDown)
	// The root may be a key of no seed that is known.
	m = freshOf(par, api.Id{1, 2})
	refuses(t, opened(t, on(t, m.bytes()), m), m, api.ErrRight, "r", "", create("a"))
}

// edit is an Edit that puts so many lines of 200 bytes into a file without lines.
func edit(s string, lines int) api.Op {
	return api.Op{Kind: api.Edit, Path: s, New: slices.Repeat([]string{strings.Repeat("x", 200)}, lines)}
}

// P30.1. What Record refuses: of several errors the one that is named first, whatever else is wrong behind it.
func TestRecordErrors(t *testing.T) {
	r, d, m := begun(t, "r")
	m = records(t, r, m, "r", "", create("a"), give(t, "lib", "o", 0), create("lib/b"))
	for range 3 {
		m = records(t, r, m, "o", "", create("lib/c"), remove("lib/c"))
	}
	many := slices.Repeat([]api.Op{create("x/")}, 33)
	long := strings.Repeat("n", 401)
	may, mayNot, clash := create("lib/d"), create("d"), create("lib/b")
	// "o" has one leaf left; "q" has all, and no right.
	for _, x := range []struct {
		seed, note string
		ops        []api.Op
		e          api.Errno
	}{
		{"o", "", nil, api.ErrArg}, {"o", "", []api.Op{}, api.ErrArg}, {"o", long, nil, api.ErrLong}, {"o", long, []api.Op{may}, api.ErrLong}, {"o", "", many, api.ErrLong}, {"o", "", many[:32], api.ErrForm}, {"o", "", []api.Op{{}, may}, api.ErrArg}, {"o", "", []api.Op{may, {Kind: 7}}, api.ErrArg}, {"o", "", []api.Op{mayNot, create("/")}, api.ErrForm}, {"o", "", []api.Op{give(t, "", "q", 9)}, api.ErrRange}, {"q", "", []api.Op{mayNot, clash, {}}, api.ErrArg},
		{"o", "", []api.Op{mayNot}, api.ErrRight}, {"o", "", []api.Op{may, mayNot}, api.ErrRight}, {"o", "", []api.Op{clash, mayNot}, api.ErrRight}, {"q", "", []api.Op{clash}, api.ErrRight}, {"o", "", []api.Op{give(t, "lib", "o", 0)}, api.ErrRight},
		{"o", "", []api.Op{clash}, api.ErrClash}, {"o", "", []api.Op{may, clash}, api.ErrClash}, {"o", "", []api.Op{may, may}, api.ErrClash}, {"o", "", []api.Op{remove("lib/x")}, api.ErrClash}, {"o", "", []api.Op{create("lib/b/c")}, api.ErrClash}, {"r", "", []api.Op{{Kind: api.Edit, Path: "a", At: 1, New: []string{"x"}}}, api.ErrClash}, {"r", "", []api.Op{{Kind: api.Edit, Path: "a", Old: []string{"x"}}}, api.ErrClash}, {"r", "", []api.Op{{Kind: api.Move, Path: "a", To: "lib/b"}}, api.ErrClash}, {"r", "", []api.Op{create("lib")}, api.ErrClash},
		{"r", "", []api.Op{give(t, "lib", "o", 0)}, api.ErrRight}, {"r", "", []api.Op{give(t, "lib", "r", 0)}, api.ErrRight}, {"r", "", []api.Op{{Kind: api.Revoke, Path: "lib", Key: keyOf(t, "q")}}, api.ErrRight},
	} {
		told(t, m.refused(t, x.seed, x.note, x.ops), x.e)
		refuses(t, r, m, x.e, x.seed, x.note, x.ops...)
	}
	m = records(t, r, m, "o", "", may)
	for _, x := range []struct {
		note string
		ops  []api.Op
		e    api.Errno
	}{
		{"", []api.Op{may}, api.ErrSpent}, {"", []api.Op{mayNot}, api.ErrSpent}, {"", []api.Op{clash}, api.ErrSpent}, {"", nil, api.ErrArg}, {long, nil, api.ErrLong}, {"", []api.Op{create("/")}, api.ErrForm},
	} {
		refuses(t, r, m, x.e, "o", x.note, x.ops...)
	}
	// Without power all that is told ahead of the disk's error is told first, and breaks nothing.
	d.Crash(0, 0)
	for _, x := range []struct {
		seed string
		ops  []api.Op
		e    api.Errno
	}{
		{"r", nil, api.ErrArg}, {"o", []api.Op{may}, api.ErrSpent}, {"q", []api.Op{clash}, api.ErrRight}, {"r", []api.Op{clash}, api.ErrClash},
	} {
		if a, e := r.Record(x.seed, "", x.ops); a != (api.Id{}) || e != x.e || r.Store().Broken() {
			t.Error(a, e)
		}
	}
	if a, e := r.Record("r", "", []api.Op{create("z")}); a != (api.Id{}) || e != api.ErrDown {
		t.Error(a, e)
	}
	for _, ops := range [][]api.Op{{create("z")}, nil, {clash}} {
		for _, seed := range []string{"r", "o", "q"} {
			if a, e := r.Record(seed, long, ops); a != (api.Id{}) || e != api.ErrState {
				t.Error(a, e)
			}
		}
	}
	says(t, r, m, true)
	d.Start()
	told(t, imported(t, r, "x", 0), api.ErrState)
	says(t, r, m, true)
	opened(t, d, m)
}

// imported is the error of an Import, of which so many patches are new.
func imported(t *testing.T, r *repo.Repo, s string, n int) api.Errno {
	t.Helper()
	k, e := r.Import(s)
	if k != n || e != api.OK && k != 0 {
		t.Fatalf("%d, %d, not %d", k, e, n)
	}
	return e
}

// takes looks what comes of taking patches in, as they stand, of which some are new, in this order.
func takes(t *testing.T, r *repo.Repo, m *model, l []api.Patch, more ...api.Patch) *model {
	t.Helper()
	if len(more) > 0 {
		m = m.put(t, more...)
	}
	told(t, imported(t, r, bytesOf(t, l...), len(more)), api.OK)
	is(t, r, r.Store().Disk(), m)
	return m
}

// lacks looks whether a bundle isn't taken in, by an error, and all stays as it was.
func lacks(t *testing.T, r *repo.Repo, m *model, want api.Errno, s string) {
	t.Helper()
	told(t, imported(t, r, s, 0), want)
	is(t, r, r.Store().Disk(), m)
}

// sorted are patches, as they stand in the order of them alone.
func sorted(t *testing.T, l []api.Patch) []api.Patch {
	t.Helper()
	s, e := state.New(l)
	told(t, e, api.OK)
	return s.Patches()
}

// P30.1. Bundles are taken in, in whatever order their patches stand, and however many are there already.
func TestImport(t *testing.T) {
	rand := rand.New(rand.NewSource(30))
	one := with(t, "r", 0, "", nil, create("a"), give(t, "lib", "o", 1))
	two := with(t, "o", 0, "", []api.Patch{one}, create("lib/a"))
	three := with(t, "r", 1, "", []api.Patch{one}, create("b"))
	four := with(t, "o", 2, "", []api.Patch{two, three}, give(t, "lib", "q", 0))
	five := with(t, "q", 3, "", []api.Patch{four}, create("lib/q"))
	all := []api.Patch{one, two, three, four, five}
	for range 20 {
		r, d, m := begun(t, "r")
		m = takes(t, r, m, nil)
		m = takes(t, r, m, mixed(rand, all), sorted(t, all)...)
		m = takes(t, r, m, mixed(rand, all))
		m = takes(t, r, m, all[3:])
		refuses(t, r, m, api.ErrSpent, "q", "", create("lib/z"))
		asked(t, r, m)
		m = records(t, r, m, "o", "", create("lib/z"))
		records(t, opened(t, d, m), m, "r", "", create("z"))
	}
	r, _, m := begun(t, "r")
	m = takes(t, r, m, []api.Patch{one, one, one}, one)
	m = takes(t, r, m, []api.Patch{three, one, three}, three)
	m = takes(t, r, m, []api.Patch{five, two, four}, two, four, five)
	if n := r.Next("o"); n != 3 {
		t.Error(n)
	}
	takes(t, r, m, mixed(rand, all))
}

// P30.1, P30.2. What Import refuses: of several errors the one that is named first; nothing is changed.
func TestImportErrors(t *testing.T) {
	r, d, m := begun(t, "r")
	m = records(t, r, m, "r", "", create("a"))
	base := m.patches[0]
	other := with(t, "o", 0, "", nil, create("b"))
	twin := with(t, "r", 3, "", nil, create("a"))
	top := with(t, "r", 1, "", []api.Patch{base}, create("b"))
	far := with(t, "r", 2, "", []api.Patch{top}, create("c"))
	bare := api.Patch{Deps: []api.Id{idOf(t, base)}, Key: base.Key, Ops: top.Ops}
	good := bytesOf(t, top)
	for _, x := range []struct {
		s string
		e api.Errno
	}{
		{"", api.ErrShort}, {"x", api.ErrShort}, {"xxx", api.ErrForm}, {"QC1", api.ErrShort}, {"QC1\x01", api.ErrShort}, {"QC1\xe9\x07", api.ErrLong}, {good[:len(good)-1], api.ErrShort}, {good + "\x00", api.ErrForm}, {strings.Repeat("x", api.MaxBytes+1), api.ErrLong},
		{bytesOf(t, far), api.ErrDeps}, {bytesOf(t, far, spoilt(top), other), api.ErrDeps},
		{bytesOf(t, spoilt(top)), api.ErrSign}, {bytesOf(t, bare), api.ErrForm}, {bytesOf(t, other), api.ErrRight}, {bytesOf(t, twin), api.ErrClash},
		{bytesOf(t, other, twin), api.ErrRight}, {bytesOf(t, twin, other, far, top), api.ErrRight}, {bytesOf(t, twin, other, spoilt(top)), api.ErrSign}, {bytesOf(t, other, bare, twin), api.ErrForm}, {bytesOf(t, top, twin), api.ErrClash}, {bytesOf(t, base, top, far, other), api.ErrRight},
	} {
		lacks(t, r, m, x.e, x.s)
	}
	m = takes(t, r, m, []api.Patch{far, base, top}, top, far)
	// Without power, too; what is there already needs no disk.
	d.Crash(0, 0)
	told(t, imported(t, r, "", 0), api.ErrShort)
	told(t, imported(t, r, bytesOf(t, with(t, "r", 3, "", []api.Patch{far}, create("a"))), 0), api.ErrClash)
	told(t, imported(t, r, bytesOf(t, m.patches...), 0), api.OK)
	says(t, r, m, false)
	told(t, imported(t, r, bytesOf(t, with(t, "r", 3, "", []api.Patch{far}, create("d"))), 0), api.ErrDown)
	says(t, r, m, true)
	told(t, imported(t, r, bytesOf(t, m.patches...), 0), api.ErrState)
	told(t, imported(t, r, "", 0), api.ErrState)
	d.Start()
	opened(t, d, m)
}

// P30.1. A patch hangs on all heads, as many as it may hang on; with one more head nothing can be recorded.
func TestHeads(t *testing.T) {
	r, _, m := begun(t, "r")
	var l []api.Patch
	for i := range 17 {
		l = append(l, with(t, "r", 0, "", nil, create("f"+strconv.Itoa(i))))
	}
	m = takes(t, r, m, l, sorted(t, l)...)
	for _, x := range []struct {
		seed string
		ops  []api.Op
	}{{"r", []api.Op{create("a")}}, {"r", nil}, {"o", []api.Op{{}}}} {
		refuses(t, r, m, api.ErrLong, x.seed, "", x.ops...)
	}
	r, d, m := begun(t, "r")
	m = takes(t, r, m, l[:16], sorted(t, l[:16])...)
	m = records(t, r, m, "r", "", create("a"))
	if p := m.patches[16]; len(p.Deps) != 16 || !slices.Equal(m.set(t).Graph().Heads(), []api.Id{idOf(t, p)}) {
		t.Error(brief(p))
	}
	m = records(t, opened(t, d, m), m, "r", "", create("b"))
	if p := m.patches[17]; len(p.Deps) != 1 {
		t.Error(brief(p))
	}
}

// P30.1. The next leaf is the greater one of the counter and of how many leaves the set's patches used.
func TestNext(t *testing.T) {
	r, d, m := begun(t, "r")
	root := m.root
	m = takes(t, r, m, []api.Patch{with(t, "r", 1, "", nil, create("a"))}, with(t, "r", 1, "", nil, create("a")))
	if n := r.Next("r"); n != 2 || r.Store().Counter(root) != 0 {
		t.Error(n)
	}
	m = records(t, r, m, "r", "", create("b"))
	if n := m.patches[1].Sign.Leaf; n != 2 || r.Store().Counter(root) != 3 || r.Next("r") != 3 {
		t.Error(n)
	}
	// A counter that was raised alone uses leaves, too.
	r, d, m = begun(t, "r")
	told(t, r.Store().Raise(root, 2), api.OK)
	told(t, r.Store().Raise(keyOf(t, "o"), 4), api.OK)
	m = m.raised(root, 2).raised(keyOf(t, "o"), 4)
	is(t, r, d, m)
	m = records(t, r, m, "r", "", create("b"), give(t, "", "o", 0))
	if n := m.patches[0].Sign.Leaf; n != 2 || r.Next("o") != 4 {
		t.Error(n)
	}
	refuses(t, r, m, api.ErrSpent, "o", "", create("c"))
	told(t, r.Store().Raise(root, 4), api.OK)
	refuses(t, r, m.raised(root, 4), api.ErrSpent, "r", "", create("c"))
}

// stands holds a repository that is great, and its disk, against a model, by its bytes and its set's sum.
func stands(t *testing.T, r *repo.Repo, d *disk.Disk, m *model, broken bool) {
	t.Helper()
	sum, _ := merkle.Sum(m.set(t).Ids())
	if r.Digest() != sum || r.Store().Frames() != len(m.rows) || r.Store().Broken() != broken || r.Store().Disk() != d {
		t.Fatalf("%x, %d, %v", r.Digest(), r.Store().Frames(), r.Store().Broken())
	}
	if d.All() != m.bytes() || d.Kept() != m.bytes() || d.Waiting() != 0 {
		t.Fatal(d.Len(), len(m.bytes()))
	}
}

// P30.1. A repository of as many patches as may be takes no more; the leaf that was to sign one more is used by then, as its counter goes first.
func TestFull(t *testing.T) {
	p := api.Params{Bits: 8, Height: 10}
	s, e := signer.New(p, "r", 0)
	told(t, e, api.OK)
	m := freshOf(p, s.Key())
	var l []api.Patch
	var deps []api.Id
	for i := range 1000 {
		x, e := patch.Make(s, deps, "", []api.Op{{Kind: []int{api.Create, api.Remove}[i%2], Path: "a"}})
		told(t, e, api.OK)
		l, deps = append(l, x), []api.Id{idOf(t, x)}
	}
	d := disk.New()
	r, e := repo.Init(d, p, "r")
	told(t, e, api.OK)
	told(t, imported(t, r, bytesOf(t, l...), 1000), api.OK)
	m = m.put(t, l...)
	stands(t, r, d, m, false)
	if n := r.Next("r"); n != 1000 {
		t.Error(n)
	}
	if a, e := r.Record("r", "", []api.Op{create("b")}); a != (api.Id{}) || e != api.ErrFull {
		t.Error(a, e)
	}
	m = m.raised(m.root, 1001)
	stands(t, r, d, m, false)
	if n := r.Next("r"); n != 1001 {
		t.Error(n)
	}
	if a, e := r.Record("r", "", []api.Op{remove("a")}); a != (api.Id{}) || e != api.ErrClash {
		t.Error(a, e)
	}
	told(t, imported(t, r, bytesOf(t, signed(t, p, "r", 1001, deps, "", []api.Op{create("b")})), 0), api.ErrFull)
	told(t, imported(t, r, bytesOf(t, l[:3]...), 0), api.OK)
	stands(t, r, d, m, false)
	opened(t, d, m)
}

// P30.1. More bytes than a bundle may have are refused, behind the counter; more than the disk has room for break the store.
func TestGreat(t *testing.T) {
	r, d, m := begun(t, "r")
	var ops, back []api.Op
	for i := range 16 {
		path := "f" + strconv.Itoa(i)
		o := edit(path, 1000)
		ops = append(ops, create(path), o)
		o.Old, o.New = o.New, slices.Repeat([]string{strings.Repeat("y", 200)}, 1000)
		back = append(back, o)
	}
	m = m.recorded(t, "r", "", ops...)
	_, e := r.Record("r", "", ops)
	told(t, e, api.OK)
	stands(t, r, d, m, false)
	if a, e := r.Record("r", "", back[:11]); a != (api.Id{}) || e != api.ErrLong {
		t.Fatal(a, e)
	}
	m = m.raised(m.root, 2)
	stands(t, r, d, m, false)
	if a, e := r.Record("r", "", back[:3]); a != (api.Id{}) || e != api.ErrFull {
		t.Fatal(a, e)
	}
	m = m.raised(m.root, 3)
	stands(t, r, d, m, true)
	r, e = repo.Open(d)
	told(t, e, api.OK)
	told(t, imported(t, r, bytesOf(t, signed(t, par, "r", 3, m.set(t).Graph().Heads(), "", back[:3])), 0), api.ErrFull)
	stands(t, r, d, m, true)
	told(t, imported(t, r, "", 0), api.ErrState)
	r, e = repo.Open(d)
	told(t, e, api.OK)
	_, e = r.Record("r", "", []api.Op{create("a")})
	told(t, e, api.OK)
	stands(t, r, d, m.recorded(t, "r", "", create("a")), false)
}

// counts are how many bytes of a write are kept.
func counts(n int) []int { return []int{-1, 0, 1, 20, n - 1, n, math.MaxInt} }

// P30.1, P30.3. A Record through a crash at each of its steps: it tells so, the repository is broken, and all else is told as far as it was done; opened anew it has what it had, and perhaps the counter, or the patch. The leaf isn't used again, once the counter is there.
func TestCrashInRecord(t *testing.T) {
	r, d, m := begun(t, "r")
	m = records(t, r, m, "r", "", create("a"))
	ops := []api.Op{create("b")}
	then := m.recorded(t, "r", "", ops...)
	half := m.raised(m.root, 2)
	seen := map[int]int{}
	for steps := range 4 {
		at := []*model{m, m, half, half}[steps] // what was told to be done
		behind := []*model{half, half, then, then}[steps]
		size := len(behind.bytes()) - len(at.bytes())
		for mask := range uint64(2) {
			for _, count := range counts(size) {
				d = on(t, m.bytes())
				r = opened(t, d, m)
				d.Arm(steps, mask, count)
				for range 3 {
					a, e := r.Record("r", "", ops)
					if a != (api.Id{}) || e != api.ErrDown && !r.Store().Broken() {
						t.Fatal(a, e)
					}
					says(t, r, at, true)
				}
				told(t, imported(t, r, "QC1\x00", 0), api.ErrState)
				d.Start()
				says(t, r, at, true)
				now := at
				if mask == 1 || count >= size {
					now = behind
				}
				seen[len(now.rows)]++
				r = opened(t, d, now)
				if now == then {
					refuses(t, r, now, api.ErrClash, "r", "", ops...)
				} else {
					now = records(t, r, now, "r", "", ops...)
					if leaf := now.patches[1].Sign.Leaf; leaf != map[bool]int{true: 1, false: 2}[len(now.rows) == len(then.rows)] {
						t.Error(leaf)
					}
				}
			}
		}
	}
	if seen[len(m.rows)] == 0 || seen[len(half.rows)] == 0 || seen[len(then.rows)] == 0 {
		t.Error(seen)
	}
	d = on(t, m.bytes())
	r = opened(t, d, m)
	d.Arm(4, 0, 0)
	records(t, r, m, "r", "", ops...)
	told(t, d.Sync(), api.ErrDown)
}

// P30.1. An Import through a crash at each of its steps: all of its patches are there, or none.
func TestCrashInImport(t *testing.T) {
	r, d, m := begun(t, "r")
	m = records(t, r, m, "r", "", create("a"))
	one := with(t, "r", 1, "", m.patches, create("b"))
	two := with(t, "r", 2, "", []api.Patch{one}, create("c"))
	then := m.put(t, one, two)
	size := len(then.bytes()) - len(m.bytes())
	for steps := range 2 {
		for mask := range uint64(2) {
			for _, count := range counts(size) {
				d = on(t, m.bytes())
				r = opened(t, d, m)
				d.Arm(steps, mask, count)
				told(t, imported(t, r, bytesOf(t, two, one), 0), api.ErrDown)
				says(t, r, m, true)
				d.Start()
				now := m
				if mask == 1 || count >= size {
					now = then
				}
				r = opened(t, d, now)
				if now == m {
					now = takes(t, r, now, []api.Patch{two, one}, one, two)
				}
				takes(t, r, now, []api.Patch{two, one})
			}
		}
	}
}

// P30.1. What is told where unsound patches were put into the store by its own call: each call does what it says of what is there.
func TestUnsound(t *testing.T) {
	one := with(t, "r", 0, "", nil, create("a"))
	two := with(t, "r", 1, "", nil, create("a"))
	far := api.Patch{Deps: []api.Id{idOf(t, one)}, Key: one.Key, Ops: []api.Op{create("b")}, Sign: api.Signature{Leaf: 1 << 40}}
	for _, x := range []struct {
		l       []api.Patch
		e, then api.Errno
		files   int
	}{
		{[]api.Patch{one, two}, api.ErrClash, api.ErrClash, 0}, {[]api.Patch{one, with(t, "o", 0, "", nil, create("b"))}, api.ErrRight, api.OK, 2}, {[]api.Patch{one, far}, api.ErrForm, api.ErrSpent, 2}, {[]api.Patch{spoilt(one)}, api.ErrSign, api.OK, 1},
	} {
		r, d, _ := begun(t, "r")
		n, e := r.Store().Put(x.l)
		if n != len(x.l) || e != api.OK {
			t.Fatal(n, e)
		}
		if y, e := r.Audit(); y != (audit.Report{}) || e != x.e {
			t.Error(y, e)
		}
		if n := r.Checkout().Len(); n != x.files {
			t.Error(n)
		}
		if len(r.Log()) != len(x.l) || r.Export() != bytesOf(t, sorted(t, x.l)...) {
			t.Error(brief(r.Log()))
		}
		told(t, imported(t, r, "QC1\x00", 0), x.e)
		noOpen(t, d, x.e)
		if a, e := r.Record("r", "", []api.Op{create("z")}); (a == api.Id{}) == (e == api.OK) || e != x.then {
			t.Error(a, e)
		}
	}
}

// pen is what signs once: a leaf of a key.
type pen struct {
	key  api.Id
	leaf int
}

// twin is a repository beside a disk on which the same is done by hand.
type twin struct {
	r      *repo.Repo
	d, by  *disk.Disk
	m      *model
	next   *model // as it would be behind the write that failed
	broken bool
	used   map[pen]bool // what signed in Records
}

// twinOf is that of a fresh repository.
func twinOf(t *testing.T, seed string) *twin {
	t.Helper()
	r, d, m := begun(t, seed)
	return &twin{r: r, d: d, by: d.Copy(), m: m, used: map[pen]bool{}}
}

// write is what a call does on the other disk, that has one more frame to write.
func (w *twin) write(next *model) api.Errno {
	e := w.by.Write(len(w.m.bytes()), next.bytes()[len(w.m.bytes()):])
	if e == api.OK {
		e = w.by.Sync()
	}
	if e == api.OK {
		w.m = next
	} else {
		w.broken, w.next = true, next
	}
	return e
}

// record is a Record.
func (w *twin) record(t *testing.T, seed, note string, ops []api.Op) (api.Id, api.Errno) {
	t.Helper()
	if w.broken {
		return api.Id{}, api.ErrState
	}
	if e := w.m.refused(t, seed, note, ops); e != api.OK {
		return api.Id{}, e
	}
	p := w.m.patch(t, seed, note, ops)
	if e := w.write(w.m.raised(p.Key, p.Sign.Leaf+1)); e != api.OK {
		return api.Id{}, e
	}
	by := pen{p.Key, p.Sign.Leaf}
	if w.used[by] {
		t.Fatalf("%x signs twice", by)
	}
	w.used[by] = true
	if e := w.write(w.m.put(t, p)); e != api.OK {
		return api.Id{}, e
	}
	return idOf(t, p), api.OK
}

// take is an Import of the bundle of patches.
func (w *twin) take(t *testing.T, l []api.Patch) (int, api.Errno) {
	t.Helper()
	if w.broken {
		return 0, api.ErrState
	}
	all, e := w.m.set(t).With(l)
	if e != api.OK {
		return 0, e
	}
	if _, _, e := audit.Of(w.m.par, w.m.root, all, 0); e != api.OK {
		return 0, e
	}
	var more []api.Patch
	for _, p := range all.Patches() {
		if !w.m.set(t).Has(idOf(t, p)) {
			more = append(more, p)
		}
	}
	if len(more) == 0 {
		return 0, api.OK
	}
	if e := w.write(w.m.put(t, inOrder(t, more)...)); e != api.OK {
		return 0, e
	}
	return len(more), api.OK
}

// inOrder are patches in the order of them alone: again and again that with the least id, of those that don't wait for one of the others.
func inOrder(t *testing.T, l []api.Patch) []api.Patch {
	t.Helper()
	left := map[api.Id]api.Patch{}
	for _, p := range l {
		left[idOf(t, p)] = p
	}
	var row []api.Patch
	for len(left) > 0 {
		var next []api.Id
		for a, p := range left {
			if !slices.ContainsFunc(p.Deps, func(b api.Id) bool { _, waits := left[b]; return waits }) {
				next = append(next, a)
			}
		}
		a := slices.MinFunc(next, func(a, b api.Id) int { return strings.Compare(string(a[:]), string(b[:])) })
		row = append(row, left[a])
		delete(left, a)
	}
	return row
}

// open is an Open: whole frames are there that were there ahead of the write that failed, or behind it.
func (w *twin) open() api.Errno {
	if w.by.Down() {
		return api.ErrDown
	}
	m, s := w.m, w.by.All()
	if w.next != nil && strings.HasPrefix(s, w.next.bytes()) {
		m = w.next
	}
	if s != m.bytes() {
		if e := w.by.Cut(len(m.bytes())); e != api.OK {
			return e
		}
	}
	w.m, w.next, w.broken = m, nil, false
	return api.OK
}

// agree holds a repository and its disk against what was done by hand.
func (w *twin) agree(t *testing.T) {
	t.Helper()
	says(t, w.r, w.m, w.broken)
	if w.r.Store().Disk() != w.d || w.d.All() != w.by.All() || w.d.Kept() != w.by.Kept() || w.d.Waiting() != w.by.Waiting() || w.d.Down() != w.by.Down() {
		t.Fatalf("%.200q, %v, not %.200q, %v", w.d.All(), w.d.Down(), w.by.All(), w.by.Down())
	}
}

// anOp is an operation that may be well.
func anOp(t *testing.T, r *rand.Rand) api.Op {
	t.Helper()
	s := []string{"a", "b", "lib/a", "lib/b", "lib/sub/c", "lib"}[r.Intn(6)]
	seed := []string{"o", "q"}[r.Intn(2)]
	switch r.Intn(8) {
	case 0:
		return create("f" + strconv.Itoa(r.Intn(50)))
	case 1, 2:
		return create(s)
	case 3:
		return remove(s)
	case 4:
		return api.Op{Kind: api.Edit, Path: s, New: []string{strconv.Itoa(r.Intn(9))}}
	case 5:
		return give(t, []string{"", "lib", "lib/sub"}[r.Intn(3)], seed, r.Intn(3))
	case 6:
		return api.Op{Kind: api.Move, Path: s, To: "m" + strconv.Itoa(r.Intn(9))}
	}
	return api.Op{Kind: []int{api.Revoke, 7}[r.Intn(8)/7], Path: "lib", Key: keyOf(t, seed)}
}

// someOps are operations that may be well, or none.
func someOps(t *testing.T, r *rand.Rand) []api.Op {
	t.Helper()
	var ops []api.Op
	for range r.Intn(12) % 4 {
		ops = append(ops, anOp(t, r))
	}
	return ops
}

// step is a call, on a repository, and by hand; it may take in what another one has.
func (w *twin) step(t *testing.T, r *rand.Rand, other *twin) {
	t.Helper()
	switch r.Intn(40) {
	default:
		seed, note := []string{"r", "r", "o", "q"}[r.Intn(4)], strconv.Itoa(r.Intn(1<<30))
		ops := someOps(t, r)
		for i := r.Intn(8); i > 1 && w.m.refused(t, seed, note, ops) != api.OK; i-- {
			ops = someOps(t, r)
		}
		a, e := w.record(t, seed, note, ops)
		if b, f := w.r.Record(seed, note, ops); a != b || e != f {
			t.Fatalf("%q, %s: %x, %d, not %x, %d", seed, brief(ops), b, f, a, e)
		}
	case 0, 1, 2, 3, 4:
		l := mixed(r, other.m.patches)
		if r.Intn(2) == 0 {
			l = l[:r.Intn(len(l)+1)]
		}
		if len(l) > 0 && r.Intn(6) == 0 {
			l = append(l[1:], spoilt(l[0]))
		}
		n, e := w.take(t, l)
		if k, f := w.r.Import(bytesOf(t, l...)); n != k || e != f {
			t.Fatalf("%s: %d, %d, not %d, %d", brief(l), k, f, n, e)
		}
	case 5:
		mask, count := r.Uint64(), r.Intn(120)-1
		w.d.Crash(mask, count)
		w.by.Crash(mask, count)
	case 6, 7:
		n, mask, count := r.Intn(8)-1, r.Uint64(), r.Intn(800)-1
		w.d.Arm(n, mask, count)
		w.by.Arm(n, mask, count)
	case 8, 9, 10:
		w.d.Start()
		w.by.Start()
	case 11, 12, 13, 14, 15, 16:
		x, e := repo.Open(w.d)
		told(t, e, w.open())
		if (x == nil) != (e != api.OK) {
			t.Fatal(x, e)
		}
		if e == api.OK {
			w.r = x
		}
	case 17:
		asked(t, w.r, w.m)
		want := api.ErrSame
		if w.by.Down() {
			want = api.ErrDown
		}
		noInit(t, w.d, par, want)
	}
}

// P30.1, P30.2, P30.3. Any calls behind any others, through crashes, on two repositories of one root that take in what the other one has, held against the words; no leaf signs twice.
func TestAnyCalls(t *testing.T) {
	r := rand.New(rand.NewSource(301))
	broken, patches, used, heads, taken := 0, 0, 0, 0, 0
	for range 50 {
		pair := []*twin{twinOf(t, "r"), twinOf(t, "r")}
		for i := range 60 {
			w, other := pair[i%2], pair[1-i%2]
			was := len(w.m.patches)
			w.step(t, r, other)
			w.agree(t)
			if w.broken {
				broken++
			}
			if len(w.m.patches) > was+1 {
				taken++
			}
			if len(w.m.set(t).Graph().Heads()) > 1 {
				heads++
			}
		}
		for _, w := range pair {
			patches += len(w.m.patches)
			used += len(w.used)
		}
	}
	if broken < 200 || patches < 200 || used < 150 || heads < 100 || taken < 10 {
		t.Error(broken, patches, used, heads, taken)
	}
}

// P30.3. Through crashes at all steps, one behind the other, what was ever signed in a repository's Records, kept or lost, was signed by another leaf each time.
func TestOneLeafEach(t *testing.T) {
	r := rand.New(rand.NewSource(303))
	p := api.Params{Bits: 8, Height: 5}
	seen := 0
	for range 12 {
		d := disk.New()
		x, e := repo.Init(d, p, "r")
		told(t, e, api.OK)
		sums := map[int]api.Id{}
		for i := range 30 {
			d.Arm(r.Intn(6), r.Uint64()>>1, r.Intn(1500)-1)
			_, e := x.Record("r", strconv.Itoa(i), []api.Op{create("f" + strconv.Itoa(i))})
			// What waits, or is kept, is what was signed, as far as it was written.
			for _, s := range []string{d.All(), d.Kept()} {
				u, f := repo.Open(on(t, s))
				told(t, f, api.OK)
				for _, y := range u.Log() {
					sum, _ := patch.Sum(y.Patch)
					if was, there := sums[y.Patch.Sign.Leaf]; there && was != sum {
						t.Fatalf("%d signed %x and %x", y.Patch.Sign.Leaf, was, sum)
					}
					sums[y.Patch.Sign.Leaf] = sum
				}
			}
			if d.Down() || x.Store().Broken() || e != api.OK {
				d.Start()
				x, e = repo.Open(d)
				told(t, e, api.OK)
			}
		}
		seen += len(sums)
	}
	if seen < 100 {
		t.Error(seen)
	}
}

// P30.4. What one exports another one with the same params and root takes in, whatever part of it that one has, and then they are alike.
func TestAlike(t *testing.T) {
	r := rand.New(rand.NewSource(304))
	all := 0
	for range 60 {
		pair := []*twin{twinOf(t, "r"), twinOf(t, "r")}
		for i := range 40 {
			pair[i%2].step(t, r, pair[1-i%2])
		}
		x := pair[0].r
		fresh, _, _ := begun(t, "r")
		told(t, imported(t, fresh, x.Export(), len(x.Log())), api.OK)
		part, _, _ := begun(t, "r")
		l := pair[0].m.set(t).Patches()
		n := r.Intn(len(l) + 1)
		told(t, imported(t, part, bytesOf(t, l[:n]...), n), api.OK)
		for _, y := range []*repo.Repo{fresh, part} {
			n := len(x.Log()) - len(y.Log())
			told(t, imported(t, y, x.Export(), n), api.OK)
			if y.Digest() != x.Digest() || y.Export() != x.Export() || !tree.Same(y.Checkout(), x.Checkout()) || !audit.Same(audited(t, y), audited(t, x)) {
				t.Fatalf("%s, not %s", brief(y.Log()), brief(x.Log()))
			}
			told(t, imported(t, y, x.Export(), 0), api.OK)
		}
		all += len(l)
		// Those of another root, or other params, don't.
		if len(l) > 0 {
			other, d, m := begun(t, "z")
			told(t, imported(t, other, x.Export(), 0), api.ErrRight)
			is(t, other, d, m)
			other, e := repo.Init(disk.New(), api.Params{Bits: 16, Height: 2}, "r")
			told(t, e, api.OK)
			told(t, imported(t, other, x.Export(), 0), api.ErrForm)
		}
	}
	if all < 60 {
		t.Error(all)
	}
}

// spoil changes all rows of a patch, their spare room too.
func spoil(p api.Patch) {
	for _, l := range [][]api.Id{p.Deps, p.Sign.Shown, p.Sign.Hidden, p.Sign.Way} {
		for i := range l[:cap(l)] {
			l[:cap(l)][i] = api.Id{0: 99, 5: byte(i)}
		}
	}
	spoilOps(p.Ops)
}

// spoilOps changes operations, and the row's spare room.
func spoilOps(ops []api.Op) {
	for i := range ops[:cap(ops)] {
		o := &ops[:cap(ops)][i]
		for _, l := range [][]string{o.Old, o.New} {
			for k := range l[:cap(l)] {
				l[:cap(l)][k] = "spoilt"
			}
		}
		*o = api.Op{Kind: 9}
	}
}

// P30.1. What is handed in is neither changed nor kept, its spare room neither; what is told is new memory, and what was told stays as it was.
func TestMemory(t *testing.T) {
	r, d, m := begun(t, "r")
	before := r.Checkout()
	roomy := func() []api.Op {
		return append(make([]api.Op, 0, 8), create("a"), api.Op{Kind: api.Edit, Path: "a", New: append(make([]string, 0, 8), "x", "y")})
	}
	ops := roomy()
	m = m.recorded(t, "r", "", roomy()...)
	_, e := r.Record("r", "", ops)
	told(t, e, api.OK)
	if !reflect.DeepEqual(ops[:8], roomy()[:8]) || !reflect.DeepEqual(ops[1].New[:8], roomy()[1].New[:8]) {
		t.Error(brief(ops))
	}
	spoilOps(ops)
	is(t, r, d, m)
	m = records(t, r, m, "r", "", create("b"))
	for _, x := range r.Log() {
		spoil(x.Patch)
	}
	for _, f := range r.Checkout().Files() {
		for i := range f.Lines {
			f.Lines[i] = "spoilt"
		}
	}
	for _, a := range append(r.Store().Set().Ids(), api.Id{}) {
		for _, x := range r.Prove(a).Places {
			clear(x.Way[:cap(x.Way)])
		}
	}
	clear(r.Log())
	is(t, r, d, m)
	if before.Len() != 0 {
		t.Error(before.Files())
	}
	is(t, opened(t, d, m), d, m)
}

// P30.1, P30.2. Of any bytes a bundle is taken in, or nothing is changed; the repository is sound in any case.
func FuzzImport(f *testing.F) {
	f.Add("QC1\x00", 0)
	f.Add("", 3)
	f.Fuzz(func(t *testing.T, b string, at int) {
		r, d, m := begun(t, "r")
		one := with(t, "r", 0, "", nil, create("a"))
		good := bytesOf(t, with(t, "r", 1, "", []api.Patch{one}, create("b")), one)
		at = min(max(at, 0), len(good))
		for _, s := range []string{b, good[:at] + b, good[:at] + b + good[at:], good[:at] + b + good[min(at+len(b), len(good)):]} {
			n, e := r.Import(s)
			if e != api.OK && n != 0 || n > 2 {
				t.Fatal(n, e)
			}
			if r.Store().Frames() > 1 {
				m = nil
			}
			if m != nil {
				is(t, r, d, m)
			}
			if _, e := r.Audit(); e != api.OK {
				t.Fatal(e)
			}
		}
	})
}
