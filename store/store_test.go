package store_test

import (
	"crypto/sha256"
	"encoding/binary"
	"fmt"
	"maps"
	"math"
	"math/rand"
	"reflect"
	"slices"
	"strconv"
	"strings"
	"testing"

	"quitclaim/api"
	"quitclaim/disk"
	"quitclaim/journal"
	"quitclaim/patch"
	"quitclaim/state"
	"quitclaim/store"
)

// par and root are those of most stores.
var (
	par  = api.Params{Bits: 16, Height: 2}
	root = api.Id{0: 5, 31: 7}
)

// brief is the beginning of a value's text.
func brief(v any) string {
	s := fmt.Sprint(v)
	return s[:min(len(s), 300)]
}

// told holds an error against what it is to be.
func told(t *testing.T, got, want api.Errno) {
	t.Helper()
	if got != want {
		t.Fatalf("%d, not %d", got, want)
	}
}

// tagged is a tagged sum, by the words.
func tagged(name string, parts ...string) string {
	b := append([]byte{byte(len(name))}, name...)
	for _, p := range parts {
		b = binary.BigEndian.AppendUint64(b, uint64(len(p)))
		b = append(b, p...)
	}
	sum := sha256.Sum256(b)
	return string(sum[:])
}

// number is a number, written.
func number(v int) string { return string(binary.AppendUvarint(nil, uint64(v))) }

// rowOf are the bytes of frames, by the words.
func rowOf(l ...journal.Frame) string {
	var s strings.Builder
	chain := tagged("journal")
	for _, f := range l {
		chain = tagged("frame", chain, string([]byte{byte(f.Kind)}), f.Payload)
		s.WriteString("\x4a" + string([]byte{byte(f.Kind)}) + number(len(f.Payload)) + f.Payload + chain[:8])
	}
	return s.String()
}

// frame is one of a kind, with a payload.
func frame(kind int, payload string) journal.Frame {
	return journal.Frame{Kind: kind, Payload: payload}
}

// start is a store's first frame.
func start(p api.Params, root api.Id) journal.Frame {
	return frame(1, number(p.Bits)+number(p.Height)+string(root[:]))
}

// counter is a counter's frame.
func counter(key api.Id, n int) journal.Frame { return frame(3, string(key[:])+number(n)) }

// bundleOf is the frame of patches, as they stand.
func bundleOf(t *testing.T, l ...api.Patch) journal.Frame {
	t.Helper()
	s := "QC1" + number(len(l))
	for _, p := range l {
		b, e := patch.Bytes(p)
		if e != api.OK {
			t.Fatal(brief(p), e)
		}
		s += number(len(b)) + b
	}
	return frame(2, s)
}

// create is a Create.
func create(s string) api.Op { return api.Op{Kind: api.Create, Path: s} }

// idOf is a patch's id.
func idOf(t *testing.T, p api.Patch) api.Id {
	t.Helper()
	a, e := patch.Id(p)
	if e != api.OK {
		t.Fatalf("%s: %d", brief(p), e)
	}
	return a
}

// less tells which one of two ids is ahead.
func less(a, b api.Id) int { return strings.Compare(string(a[:]), string(b[:])) }

// on is a patch on top of others.
func on(t *testing.T, note string, below ...api.Patch) api.Patch {
	t.Helper()
	p := api.Patch{Note: note, Ops: []api.Op{create("a")}}
	for _, q := range below {
		p.Deps = append(p.Deps, idOf(t, q))
	}
	slices.SortFunc(p.Deps, less)
	return p
}

// many are so many patches, each on top of the one ahead.
func many(t *testing.T, n int) []api.Patch {
	t.Helper()
	var l []api.Patch
	for i := range n {
		l = append(l, on(t, strconv.Itoa(i), l[max(i-1, 0):]...))
	}
	return l
}

// inOrder are patches in order, each once, by the words: again and again that with the least id, of those that aren't there yet, and don't wait for one of the others.
func inOrder(t *testing.T, l []api.Patch) []api.Patch {
	t.Helper()
	left := map[api.Id]api.Patch{}
	for _, p := range l {
		left[idOf(t, p)] = p
	}
	var row []api.Patch
	for len(left) > 0 {
		var next []api.Id
		for a, p := range left {
			if !slices.ContainsFunc(p.Deps, func(b api.Id) bool { _, waits := left[b]; return waits }) {
				next = append(next, a)
			}
		}
		a := slices.MinFunc(next, less)
		row = append(row, left[a])
		delete(left, a)
	}
	return row
}

// mixed are patches in another order.
func mixed(r *rand.Rand, l []api.Patch) []api.Patch {
	l = slices.Clone(l)
	r.Shuffle(len(l), func(i, j int) { l[i], l[j] = l[j], l[i] })
	return l
}

// with is a disk with some bytes, that are synced.
func with(t *testing.T, s string) *disk.Disk {
	t.Helper()
	d := disk.New()
	told(t, d.Write(0, s), api.OK)
	told(t, d.Sync(), api.OK)
	return d
}

// model is a store by the words: its frames, and what they say.
type model struct {
	par      api.Params
	root     api.Id
	rows     []journal.Frame
	patches  []api.Patch
	counters map[api.Id]int
}

// fresh is that of a store with the first frame alone.
func fresh() *model { return &model{par: par, root: root, rows: []journal.Frame{start(par, root)}} }

// raised is a model with one more counter.
func (m *model) raised(key api.Id, n int) *model {
	u := *m
	u.rows, u.counters = append(slices.Clone(m.rows), counter(key, n)), maps.Clone(m.counters)
	if u.counters == nil {
		u.counters = map[api.Id]int{}
	}
	u.counters[key] = n
	return &u
}

// put is a model with one more bundle of patches, as these stand.
func (m *model) put(t *testing.T, l ...api.Patch) *model {
	t.Helper()
	u := *m
	u.rows, u.patches = append(slices.Clone(m.rows), bundleOf(t, l...)), append(slices.Clone(m.patches), l...)
	return &u
}

// bytes are those of a model's frames.
func (m *model) bytes() string { return rowOf(m.rows...) }

// says holds all that a store tells against a model.
func says(t *testing.T, s *store.Store, m *model, broken bool) {
	t.Helper()
	if s.Params() != m.par || s.Root() != m.root || s.Frames() != len(m.rows) || s.Broken() != broken {
		t.Fatalf("%v, %x, %d, %v, not %v, %x, %d, %v", s.Params(), s.Root(), s.Frames(), s.Broken(), m.par, m.root, len(m.rows), broken)
	}
	for key, n := range m.counters {
		if got := s.Counter(key); got != n {
			t.Fatalf("%x: %d, not %d", key, got, n)
		}
	}
	for _, key := range []api.Id{{}, {1}, {2}, {3}, root} {
		if got := s.Counter(key); got != m.counters[key] {
			t.Fatalf("%x: %d, not %d", key, got, m.counters[key])
		}
	}
	want, e := state.New(m.patches)
	told(t, e, api.OK)
	if got := s.Set(); got == nil || !slices.EqualFunc(got.Order(), want.Order(), func(x, y state.Entry) bool { return x.Id == y.Id && patch.Same(x.Patch, y.Patch) }) {
		t.Fatalf("%s, not %s", brief(got), brief(want))
	}
}

// is holds a store, its disk, and what it is when it is opened anew, against a model.
func is(t *testing.T, s *store.Store, d *disk.Disk, m *model) {
	t.Helper()
	says(t, s, m, false)
	if s.Disk() != d || d.All() != m.bytes() || d.Kept() != m.bytes() || d.Waiting() != 0 {
		t.Fatalf("%.200q, not %.200q", d.All(), m.bytes())
	}
	u, e := store.Open(d.Copy())
	if e != api.OK {
		t.Fatal(e)
	}
	says(t, u, m, false)
}

// created is a fresh store.
func created(t *testing.T) (*store.Store, *disk.Disk) {
	t.Helper()
	d := disk.New()
	s, e := store.Create(d, par, root)
	told(t, e, api.OK)
	is(t, s, d, fresh())
	return s, d
}

// opened is the store of a disk, that is as a model.
func opened(t *testing.T, d *disk.Disk, m *model) *store.Store {
	t.Helper()
	s, e := store.Open(d)
	told(t, e, api.OK)
	is(t, s, d, m)
	return s
}

// refuses looks whether a disk isn't opened, by an error, and stays as it was.
func refuses(t *testing.T, d *disk.Disk, want api.Errno) {
	t.Helper()
	was := *d.Copy()
	if s, e := store.Open(d); s != nil || e != want {
		t.Fatalf("%.200q: %v, %d, not %d", d.All(), s, e, want)
	}
	if got := *d.Copy(); !reflect.DeepEqual(got, was) {
		t.Fatalf("%.200q, not %.200q", got.All(), was.All())
	}
}

// some are bytes that are no frame, or begin one.
func some() []string {
	all := rowOf(start(par, root))
	return []string{"x", "J", "garbage", all[:1], all[:len(all)-1], all[1:], rowOf(frame(9, "x"))[:11], strings.Repeat("\x00", 99)}
}

// P28.1, P28.2. Fresh stores of all params that are right: what is written, and what is told; the example among them.
func TestCreate(t *testing.T) {
	for bits := 8; bits <= 256; bits += 8 {
		for height := range 11 {
			for _, key := range []api.Id{{}, root} {
				p := api.Params{Bits: bits, Height: height}
				m := &model{par: p, root: key, rows: []journal.Frame{start(p, key)}}
				d := disk.New()
				s, e := store.Create(d, p, key)
				told(t, e, api.OK)
				is(t, s, d, m)
				is(t, opened(t, d, m), d, m)
				refused(t, d, p, key, api.ErrSame)
				refused(t, d, par, root, api.ErrSame)
			}
		}
	}
}

// P28.1. A disk on which there is no frame may become a store, whatever else is on it.
func TestCreateUnclean(t *testing.T) {
	for _, s := range some() {
		d := with(t, s)
		told(t, d.Write(d.Len(), "more"), api.OK)
		x, e := store.Create(d, par, root)
		told(t, e, api.OK)
		is(t, x, d, fresh())
	}
}

// refused looks whether a store isn't created, by an error, and the disk stays as it was.
func refused(t *testing.T, d *disk.Disk, p api.Params, key api.Id, want api.Errno) {
	t.Helper()
	var was disk.Disk
	if d != nil {
		was = *d.Copy()
	}
	if s, e := store.Create(d, p, key); s != nil || e != want {
		t.Fatalf("%v: %v, %d, not %d", p, s, e, want)
	}
	if d != nil && !reflect.DeepEqual(*d.Copy(), was) {
		t.Fatalf("%.200q, not %.200q", d.All(), was.All())
	}
}

// off is a disk with some bytes, without power.
func off(t *testing.T, s string) *disk.Disk {
	t.Helper()
	d := with(t, s)
	d.Crash(0, 0)
	return d
}

// P28.1. What Create refuses: of several errors the one that is named first; any frame is one too many.
func TestCreateErrors(t *testing.T) {
	frames := []string{fresh().bytes(), rowOf(frame(2, "x")), rowOf(frame(255, "")), rowOf(frame(1, ""), frame(1, ""))}
	for _, p := range []api.Params{{}, {Bits: 7}, {Bits: 9, Height: 1}, {Bits: 264}, {Bits: -8}, {Bits: 8, Height: -1}, {Bits: 8, Height: 11}, {Bits: math.MaxInt, Height: math.MinInt}} {
		refused(t, nil, p, root, api.ErrArg)
		for _, s := range append(some(), frames...) {
			refused(t, with(t, s), p, root, api.ErrArg)
			refused(t, off(t, s), p, root, api.ErrArg)
		}
	}
	refused(t, nil, par, root, api.ErrArg)
	for _, s := range append(some(), frames...) {
		refused(t, off(t, s), par, root, api.ErrDown)
	}
	for _, s := range frames {
		for _, more := range append(some(), "") {
			d := with(t, s)
			told(t, d.Write(len(s), more), api.OK)
			d.Arm(0, 0, 0)
			refused(t, d, par, root, api.ErrSame)
			told(t, d.Sync(), api.ErrDown) // no step was done
		}
	}
}

// P28.1. What Open refuses ahead of looking at what frames say.
func TestOpenErrors(t *testing.T) {
	if s, e := store.Open(nil); s != nil || e != api.ErrArg {
		t.Error(s, e)
	}
	for _, s := range append(some(), "", fresh().bytes(), rowOf(frame(9, "x"))) {
		refuses(t, off(t, s), api.ErrDown)
	}
	for _, s := range append(some(), "") {
		d := with(t, s)
		told(t, d.Write(d.Len(), "more"), api.OK)
		d.Arm(0, 0, 0)
		refuses(t, d, api.ErrNone)
		told(t, d.Sync(), api.ErrDown) // no step was done
	}
}

// P28.1. Frames that are no store's, as they stand, and with bytes behind them that are none: they aren't opened, and the disk stays as it was.
func none(t *testing.T, l ...journal.Frame) {
	t.Helper()
	refuses(t, with(t, rowOf(l...)), api.ErrForm)
	d := with(t, rowOf(l...)+"J")
	d.Arm(0, 0, 0)
	refuses(t, d, api.ErrForm)
	told(t, d.Sync(), api.ErrDown)
}

// P28.1. The first frame, and it alone, is of the kind 1, and says what params are right, and the root key, and no more.
func TestFirstFrame(t *testing.T) {
	first, key := start(par, root), api.Id{1}
	p := on(t, "")
	for kind := range 256 {
		if kind > 1 {
			none(t, frame(kind, first.Payload))
			none(t, frame(kind, first.Payload), first)
		}
	}
	for _, f := range []journal.Frame{bundleOf(t, p), counter(key, 1)} {
		none(t, f)
		none(t, f, first)
		none(t, first, f, first)
		none(t, first, first, f)
	}
	none(t, first, first)
	none(t, first, start(api.Params{Bits: 8}, key))
	for i := range first.Payload {
		none(t, frame(1, first.Payload[:i]))
		none(t, first, frame(1, first.Payload[:i]))
	}
	none(t, frame(1, first.Payload+"\x00"))
	none(t, frame(1, first.Payload+first.Payload))
	none(t, frame(1, "\x90\x00\x02"+string(root[:]))) // a number in more groups than there may be
	none(t, frame(1, "\x10\x82\x00"+string(root[:])))
	for _, q := range []api.Params{{}, {Height: 1}, {Bits: 7}, {Bits: 12}, {Bits: 264}, {Bits: 1 << 40}, {Bits: 1 << 62}, {Bits: 8, Height: 11}, {Bits: 8, Height: 1 << 62}, {Bits: 256, Height: 128}} {
		none(t, start(q, root))
		none(t, start(q, root), counter(key, 1))
	}
}

// P28.1. Other kinds of frames are no store's, whatever they say.
func TestKinds(t *testing.T) {
	first := start(par, root)
	for kind := 4; kind < 256; kind++ {
		for _, s := range []string{"", "x", counter(api.Id{1}, 1).Payload, bundleOf(t, on(t, "")).Payload} {
			none(t, first, frame(kind, s))
			none(t, first, counter(api.Id{1}, 1), frame(kind, s), counter(api.Id{1}, 2))
		}
	}
}

// P28.1. Counters: each one of a key is above the one ahead, and at most how many leaves there are.
func TestCounters(t *testing.T) {
	key, other := api.Id{1}, api.Id{2}
	for height := range 11 {
		p := api.Params{Bits: 8, Height: height}
		leaves := 1 << height
		m := &model{par: p, root: root, rows: []journal.Frame{start(p, root)}}
		for _, n := range []int{0, leaves + 1, leaves * 2, 1 << 40, 1 << 62} {
			none(t, m.rows[0], counter(key, n))
		}
		opened(t, with(t, m.raised(key, leaves).bytes()), m.raised(key, leaves))
		for _, n := range []int{0, 1, leaves, leaves + 1} {
			none(t, m.rows[0], counter(key, leaves), counter(key, n))
		}
		u := m.raised(key, 1).raised(other, leaves).raised(api.Id{}, 1)
		for n := 2; n <= leaves; n += 1 + n/3 {
			u = u.raised(key, n)
			for _, k := range []int{0, 1, n - 1, n} {
				none(t, append(slices.Clone(u.rows), counter(key, k))...)
			}
		}
		opened(t, with(t, u.bytes()), u)
		none(t, append(slices.Clone(u.rows), counter(other, leaves))...)
	}
	first, f := start(par, root), counter(key, 3)
	for i := range f.Payload {
		none(t, first, frame(3, f.Payload[:i]))
	}
	none(t, first, frame(3, f.Payload+"\x00"))
	none(t, first, frame(3, f.Payload[:32]+"\x83\x00"))
	none(t, first, frame(3, f.Payload+f.Payload))
	none(t, first, f, frame(3, ""))
}

// P28.1. Bundles: of one patch at least, no patch twice, and each hangs on those of its bundle, or ahead.
func TestBundles(t *testing.T) {
	first, l := start(par, root), many(t, 4)
	m := fresh()
	for _, u := range []*model{
		m.put(t, l[0]), m.put(t, l...), m.put(t, l[0], l[1]).put(t, l[2]).put(t, l[3]), m.put(t, l[0]).put(t, l[3], l[1], l[2]), m.put(t, l[3], l[2], l[1], l[0]), m.put(t, on(t, "x"), l[0], on(t, "y")).put(t, l[2], l[1]), m.raised(api.Id{1}, 1).put(t, l[1], l[0]).raised(api.Id{1}, 4).put(t, l[2]),
	} {
		opened(t, with(t, u.bytes()), u)
	}
	none(t, first, frame(2, "QC1\x00"))
	none(t, first, bundleOf(t, l[0]), frame(2, "QC1\x00"))
	for _, row := range [][][]api.Patch{
		{{l[1]}}, {{l[0], l[2]}}, {{l[1]}, {l[0]}}, {{l[0]}, {l[2]}, {l[1]}}, {{l[0]}, {l[2], l[3]}, {l[1]}}, {{l[0], l[0]}}, {{l[0], l[1], l[0]}}, {{l[0]}, {l[0]}}, {{l[0], l[1]}, {l[2], l[1]}}, {{l[0]}, {l[1]}, {l[2]}, {l[0]}}, {{l[2], l[1]}, {l[0]}},
	} {
		rows := []journal.Frame{first}
		for _, b := range row {
			rows = append(rows, bundleOf(t, b...))
		}
		none(t, rows...)
		none(t, append(rows, counter(api.Id{1}, 1))...)
	}
	f := bundleOf(t, l...)
	for i := range f.Payload {
		none(t, first, frame(2, f.Payload[:i]))
	}
	none(t, first, frame(2, f.Payload+"\x00"))
	none(t, first, frame(2, f.Payload+f.Payload))
	none(t, first, frame(2, "QC2"+f.Payload[3:]))
	none(t, first, frame(2, "QC1\x05"+f.Payload[4:]))
	none(t, first, frame(2, "QC1\x03"+f.Payload[4:]))
	none(t, first, bundleOf(t, l[:2]...), frame(2, bundleOf(t, l[2]).Payload+"\x00"))
}

// P28.1. A store has as many patches as a set may have, in however many bundles.
func TestFull(t *testing.T) {
	l := many(t, 1001)
	rows := []journal.Frame{start(par, root)}
	for _, p := range l {
		rows = append(rows, bundleOf(t, p))
	}
	m := &model{par: par, root: root, rows: rows[:1001], patches: l[:1000]}
	s := opened(t, with(t, m.bytes()), m)
	none(t, rows...)
	none(t, rows[0], bundleOf(t, l[:500]...), bundleOf(t, l[500:]...))
	if n, e := s.Put(l[1000:]); n != 0 || e != api.ErrFull {
		t.Error(n, e)
	}
	if n, e := s.Put(l[:1000]); n != 0 || e != api.OK {
		t.Error(n, e)
	}
	is(t, s, s.Disk(), m)
	told(t, s.Raise(api.Id{1}, 1), api.OK)
	is(t, s, s.Disk(), m.raised(api.Id{1}, 1))
}

// P28.1. Bytes that aren't clean are cut when a store is opened, by one step; a step that fails leaves no store.
func TestOpenUnclean(t *testing.T) {
	m := fresh().put(t, on(t, "")).raised(api.Id{1}, 2)
	for _, more := range append(some(), rowOf(start(par, root)), m.bytes()) {
		d := with(t, m.bytes()+more)
		d.Arm(1, 0, 0)
		opened(t, d, m)
		told(t, d.Sync(), api.ErrDown)
		d.Start()
		opened(t, d, m)
		d = with(t, m.bytes()+more)
		d.Arm(0, 0, 0)
		if s, e := store.Open(d); s != nil || e != api.ErrDown || d.All() != m.bytes()+more || !d.Down() {
			t.Errorf("%.200q: %d", d.All(), e)
		}
		d.Start()
		opened(t, d, m)
	}
	// Clean bytes stay as they are: no step is done.
	d := with(t, m.bytes())
	d.Arm(0, 0, 0)
	opened(t, d, m)
	told(t, d.Sync(), api.ErrDown)
}

// P28.1. All bytes ahead of a store's end: whole frames are a store, and no byte of one can be changed unseen.
func TestCutShort(t *testing.T) {
	l := many(t, 2)
	rows := []*model{fresh(), fresh().put(t, l[0]), fresh().put(t, l[0]).raised(api.Id{1}, 3), fresh().put(t, l[0]).raised(api.Id{1}, 3).put(t, l[1])}
	all := rows[3].bytes()
	for n := range len(all) + 1 {
		var whole *model
		for _, m := range rows {
			if len(m.bytes()) <= n {
				whole = m
			}
		}
		if whole == nil {
			refuses(t, with(t, all[:n]), api.ErrNone)
		} else {
			opened(t, with(t, all[:n]), whole)
		}
		if n < len(all) {
			b := []byte(all)
			b[n] ^= 0x10
			if end := len(rows[0].bytes()); n < end {
				refuses(t, with(t, string(b)), api.ErrNone)
			} else if whole != nil {
				opened(t, with(t, string(b)), whole)
			}
		}
	}
}

// P28.1. A number is raised to what is above it, and at most how many leaves there are; keys don't know of one another.
func TestRaise(t *testing.T) {
	for height := range 11 {
		p := api.Params{Bits: 8, Height: height}
		leaves := 1 << height
		m := &model{par: p, root: root, rows: []journal.Frame{start(p, root)}}
		d := disk.New()
		s, e := store.Create(d, p, root)
		told(t, e, api.OK)
		for _, key := range []api.Id{{}, {31: 1}, root} {
			for n := 1; n <= leaves; n += 1 + n/2 {
				for _, k := range []int{math.MinInt, -1, 0, m.counters[key], leaves + 1, 1 << 62, math.MaxInt} {
					told(t, s.Raise(key, k), api.ErrRange)
				}
				told(t, s.Raise(key, n), api.OK)
				m = m.raised(key, n)
				told(t, s.Raise(key, n), api.ErrRange)
			}
			if m.counters[key] < leaves {
				told(t, s.Raise(key, leaves), api.OK)
				m = m.raised(key, leaves)
			}
			told(t, s.Raise(key, leaves), api.ErrRange)
			told(t, s.Raise(key, leaves+1), api.ErrRange)
			is(t, s, d, m)
		}
		s = opened(t, d, m)
		told(t, s.Raise(root, leaves), api.ErrRange)
		told(t, s.Raise(api.Id{9}, leaves), api.OK)
		is(t, s, d, m.raised(api.Id{9}, leaves))
	}
}

// puts looks what comes of putting patches in.
func puts(t *testing.T, s *store.Store, m *model, l ...api.Patch) *model {
	t.Helper()
	more := inOrder(t, slices.DeleteFunc(slices.Clone(l), func(p api.Patch) bool {
		return slices.ContainsFunc(m.patches, func(q api.Patch) bool { return patch.Same(p, q) })
	}))
	if len(more) > 0 {
		m = m.put(t, more...)
	}
	if n, e := s.Put(l); n != len(more) || e != api.OK {
		t.Fatalf("%s: %d, %d, not %d", brief(l), n, e, len(more))
	}
	is(t, s, s.Disk(), m)
	return m
}

// P28.1, P28.2. Patches are put in as one bundle, in order, those alone that the store doesn't have; none are nothing.
func TestPut(t *testing.T) {
	r := rand.New(rand.NewSource(28))
	for range 60 {
		s, _ := created(t)
		var l []api.Patch
		for range 12 {
			var below []api.Patch
			for _, p := range l {
				if r.Intn(4) == 0 {
					below = append(below, p)
				}
			}
			l = append(l, on(t, strconv.Itoa(r.Intn(1<<20)), below...))
		}
		m := puts(t, s, fresh())
		for n := 0; n < len(l); {
			n = min(n+r.Intn(5), len(l))
			part := mixed(r, append(slices.Clone(l[:n]), l[:r.Intn(n+1)]...))
			if r.Intn(3) == 0 { // without those that are there
				part = mixed(r, l[len(m.patches):n])
			}
			m = puts(t, s, m, part...)
			m = puts(t, s, m, part...)
			m = puts(t, s, m)
		}
	}
}

// P28.1. A bundle's order is that of its own patches, which isn't the one in which they stand in the whole set.
func TestPutOrder(t *testing.T) {
	r, unlike := rand.New(rand.NewSource(281)), 0
	for range 200 {
		s, _ := created(t)
		base := on(t, strconv.Itoa(r.Int()))
		m := puts(t, s, fresh(), base)
		l := []api.Patch{on(t, strconv.Itoa(r.Int())), on(t, strconv.Itoa(r.Int()), base)}
		m = puts(t, s, m, l...)
		var order []api.Patch
		for _, p := range s.Set().Patches() {
			if !patch.Same(p, base) {
				order = append(order, p)
			}
		}
		if !slices.EqualFunc(order, m.patches[1:], patch.Same) {
			unlike++
		}
	}
	if unlike == 0 {
		t.Error("there is no such order")
	}
}

// lacks looks whether a store refuses patches by an error, and stays as it was.
func lacks(t *testing.T, s *store.Store, m *model, want api.Errno, l ...api.Patch) {
	t.Helper()
	if n, e := s.Put(l); n != 0 || e != want {
		t.Fatalf("%s: %d, %d, not %d", brief(l), n, e, want)
	}
	is(t, s, s.Disk(), m)
}

// P28.1. What Put refuses: patches that make no set with those that are there; of several errors the one that is named first. The store stays as it was, and isn't broken.
func TestPutErrors(t *testing.T) {
	s, _ := created(t)
	l := many(t, 1001)
	m := puts(t, s, fresh(), l[:3]...)
	wrongs := []struct {
		p api.Patch
		e api.Errno
	}{
		{api.Patch{}, api.ErrArg}, {api.Patch{Ops: []api.Op{create("/")}}, api.ErrForm}, {on(t, strings.Repeat("n", 401)), api.ErrLong}, {api.Patch{Deps: []api.Id{{2}, {1}}, Ops: l[0].Ops}, api.ErrOrder}, {api.Patch{Ops: l[0].Ops, Sign: api.Signature{Leaf: -1}}, api.ErrForm},
	}
	for _, x := range wrongs {
		lacks(t, s, m, x.e, x.p)
		lacks(t, s, m, x.e, l[0], x.p, l[5], wrongs[0].p)
		lacks(t, s, m, x.e, append(slices.Clone(l), x.p)...)
	}
	lacks(t, s, m, api.ErrDeps, l[4])
	lacks(t, s, m, api.ErrDeps, l[4], l[0], on(t, "x"))
	lacks(t, s, m, api.ErrDeps, append(slices.Clone(l), on(t, "x", on(t, "y")))...)
	lacks(t, s, m, api.ErrFull, l...)
	lacks(t, s, m, api.ErrFull, l[3:]...)
	m = puts(t, s, m, l[:1000]...)
	lacks(t, s, m, api.ErrFull, l...)
	lacks(t, s, m, api.ErrFull, on(t, "x"))
	lacks(t, s, m, api.ErrDeps, on(t, "x", on(t, "y")))
}

// great is a patch of more than so many hundred thousand bytes.
func great(note string, n int) api.Patch {
	p := api.Patch{Note: note}
	for range n {
		p.Ops = append(p.Ops, api.Op{Kind: api.Edit, Path: "a", New: slices.Repeat([]string{strings.Repeat("x", 200)}, 500)})
	}
	return p
}

// P28.1. More bytes than a bundle may have are refused, and the store isn't broken; more than the disk has room for break it, and leave it as it was.
func TestGreat(t *testing.T) {
	s, d := created(t)
	l := []api.Patch{great("a", 15), great("b", 15), great("c", 15)}
	lacks(t, s, fresh(), api.ErrLong, l...)
	lacks(t, s, fresh(), api.ErrDeps, append(slices.Clone(l), on(t, "x", on(t, "y")))...)
	m := puts(t, s, fresh(), l[:2]...)
	lacks(t, s, m, api.ErrLong, great("d", 31), l[2], l[0], great("e", 31))
	if n, e := s.Put(l); n != 0 || e != api.ErrFull {
		t.Fatal(n, e)
	}
	says(t, s, m, true)
	if d.All() != m.bytes() || d.Waiting() != 0 {
		t.Error(d.Len(), d.Waiting())
	}
	told(t, s.Raise(api.Id{1}, 1), api.ErrState)
	s = opened(t, d, m)
	m = puts(t, s, m, great("f", 8))
	room := 1<<22 - d.Len() - 100
	m = puts(t, s, m, great("g", room/100600))
	told(t, s.Raise(api.Id{1}, 1), api.OK)
	is(t, s, d, m.raised(api.Id{1}, 1))
}

// P28.1. A disk that has no room for a counter breaks the store, too.
func TestRaiseFull(t *testing.T) {
	s, d := created(t)
	m := fresh()
	for i := 0; d.Len()+600 < 1<<22; i++ {
		p := great(strconv.Itoa(i), min(30, (1<<22-d.Len())/100600))
		if len(p.Ops) == 0 {
			p = on(t, strings.Repeat("n", 400-i%300), m.patches[len(m.patches)-1])
		}
		m = m.put(t, p)
		if n, e := s.Put([]api.Patch{p}); n != 1 || e != api.OK {
			t.Fatal(n, e)
		}
	}
	for n := 1; n <= 1000; n++ {
		key := api.Id{4, byte(n >> 8), byte(n)}
		if d.Len()+len(rowOf(counter(key, 1))) > 1<<22 {
			told(t, s.Raise(key, 1), api.ErrFull)
			break
		}
		told(t, s.Raise(key, 1), api.OK)
		m = m.raised(key, 1)
	}
	says(t, s, m, true)
	told(t, s.Raise(api.Id{9}, 1), api.ErrState)
	opened(t, d, m)
}

// counts are how many bytes of a write are kept.
func counts() []int { return []int{-1, 0, 1, 7, 20, 40, 48, 60, 1 << 20} }

// call is one of a store's calls, what it is made on, and what it comes to.
type call struct {
	of, then *model
	do       func(s *store.Store) api.Errno
}

// calls are some of each kind.
func calls(t *testing.T) []call {
	t.Helper()
	l := many(t, 3)
	m := fresh().raised(api.Id{1}, 1).put(t, l[0])
	put := func(l ...api.Patch) func(s *store.Store) api.Errno {
		return func(s *store.Store) api.Errno {
			n, e := s.Put(l)
			if e != api.OK && n != 0 {
				t.Errorf("%d beside %d", n, e)
			}
			return e
		}
	}
	return []call{
		{m, m.raised(api.Id{1}, 4), func(s *store.Store) api.Errno { return s.Raise(api.Id{1}, 4) }},
		{fresh(), fresh().raised(api.Id{2}, 1), func(s *store.Store) api.Errno { return s.Raise(api.Id{2}, 1) }},
		{m, m.put(t, l[1], l[2]), put(l[2], l[1])},
		{fresh(), fresh().put(t, l[0]), put(l[0])},
	}
}

// P28.1, P28.2. Each call through crashes at each of its steps: it tells so, and the store is broken, and all else is told as ahead of it; opened anew it is as it was ahead, or as it would be behind.
func TestCrash(t *testing.T) {
	kept := map[bool]int{}
	for _, c := range calls(t) {
		for steps := range 2 {
			for mask := range uint64(2) {
				for _, count := range counts() {
					d := with(t, c.of.bytes())
					s := opened(t, d, c.of)
					d.Arm(steps, mask, count)
					told(t, c.do(s), api.ErrDown)
					for range 2 {
						says(t, s, c.of, true)
						told(t, c.do(s), api.ErrState)
						told(t, s.Raise(api.Id{1}, 0), api.ErrState)
						if n, e := s.Put(nil); n != 0 || e != api.ErrState {
							t.Error(n, e)
						}
						if n, e := s.Put([]api.Patch{{}}); n != 0 || e != api.ErrState {
							t.Error(n, e)
						}
						d.Start()
					}
					behind := d.All() == c.then.bytes()
					kept[behind]++
					if m := map[bool]*model{true: c.then, false: c.of}[behind]; behind != (mask == 1 || count >= len(c.then.bytes())-len(c.of.bytes())) {
						t.Errorf("%d, %d, %d: %v", steps, mask, count, behind)
					} else {
						s = opened(t, d, m)
						told(t, s.Raise(api.Id{3}, 1), api.OK)
						is(t, s, d, m.raised(api.Id{3}, 1))
					}
				}
			}
		}
		// With one step more all is done ahead of the crash.
		d := with(t, c.of.bytes())
		s := opened(t, d, c.of)
		d.Arm(2, 0, 0)
		told(t, c.do(s), api.OK)
		is(t, s, d, c.then)
		told(t, d.Sync(), api.ErrDown)
		d.Start()
		is(t, s, d, c.then)
	}
	if kept[true] == 0 || kept[false] == 0 {
		t.Error(kept)
	}
}

// P28.2. Crashes while a store is created: none is told; there is none, or just that.
func TestCrashInCreate(t *testing.T) {
	for i, before := range append(some(), "") {
		for steps := range 4 {
			for mask := range uint64(2) {
				for _, count := range counts() {
					d := with(t, before)
					d.Arm(steps, mask, count)
					s, e := store.Create(d, par, root)
					if all := 2 + map[bool]int{true: 1}[before != ""]; steps >= all { // the cut is one more
						told(t, e, api.OK)
						is(t, s, d, fresh())
						continue
					}
					if s != nil || e != api.ErrDown {
						t.Fatal(i, steps, s, e)
					}
					d.Start()
					if d.All() == fresh().bytes() {
						opened(t, d, fresh())
						refused(t, d, par, root, api.ErrSame)
						continue
					}
					refuses(t, d, api.ErrNone)
					s, e = store.Create(d, par, root)
					told(t, e, api.OK)
					is(t, s, d, fresh())
				}
			}
		}
	}
}

// P28.1. Without power a call that has something to write breaks the store; one that has nothing tells what it would tell otherwise.
func TestDown(t *testing.T) {
	l := many(t, 2)
	for kind := range 2 {
		s, d := created(t)
		m := puts(t, s, fresh(), l[0])
		d.Crash(0, 0)
		says(t, s, m, false)
		told(t, s.Raise(api.Id{1}, 0), api.ErrRange)
		for _, x := range []struct {
			l []api.Patch
			e api.Errno
		}{{nil, api.OK}, {l[:1], api.OK}, {[]api.Patch{{}}, api.ErrArg}, {[]api.Patch{on(t, "x", on(t, "y"))}, api.ErrDeps}} {
			if n, e := s.Put(x.l); n != 0 || e != x.e {
				t.Error(n, e)
			}
		}
		says(t, s, m, false)
		if kind == 0 {
			told(t, s.Raise(api.Id{1}, 1), api.ErrDown)
		} else if n, e := s.Put(l); n != 0 || e != api.ErrDown {
			t.Error(n, e)
		}
		says(t, s, m, true)
		d.Start()
		told(t, s.Raise(api.Id{1}, 0), api.ErrState)
		opened(t, d, m)
		s = opened(t, d, m)
		d.Crash(0, 0)
		d.Start() // a crash while nothing waits is no harm
		m = puts(t, s, m, l...)
		told(t, s.Raise(api.Id{1}, 1), api.OK)
		is(t, s, d, m.raised(api.Id{1}, 1))
	}
}

// P28.1. Whether patches are sound isn't asked: by any key, unsigned, and clashing.
func TestUnsound(t *testing.T) {
	s, d := created(t)
	one, two := on(t, "one"), on(t, "two")
	two.Key, two.Sign = api.Id{9}, api.Signature{Leaf: 1 << 62, Way: []api.Id{{1}}}
	m := puts(t, s, fresh(), one, two)
	if _, _, clashes := s.Set().Clash(); !clashes {
		t.Error("they don't clash")
	}
	opened(t, d, m)
}

// twin is a store beside a disk on which the same is done by hand.
type twin struct {
	s      *store.Store
	d, by  *disk.Disk
	m      *model
	next   *model // as it would be behind the call that failed
	broken bool
}

// write is what a call that has something to write does on the other disk.
func (w *twin) write(next *model) api.Errno {
	e := w.by.Write(len(w.m.bytes()), next.bytes()[len(w.m.bytes()):])
	if e == api.OK {
		e = w.by.Sync()
	}
	if e == api.OK {
		w.m = next
	} else {
		w.broken, w.next = true, next
	}
	return e
}

// raise is a Raise.
func (w *twin) raise(key api.Id, n int) api.Errno {
	switch {
	case w.broken:
		return api.ErrState
	case n <= w.m.counters[key] || n > 4:
		return api.ErrRange
	}
	return w.write(w.m.raised(key, n))
}

// put is a Put.
func (w *twin) put(t *testing.T, l []api.Patch) (int, api.Errno) {
	t.Helper()
	there := func(p api.Patch) bool {
		return slices.ContainsFunc(w.m.patches, func(q api.Patch) bool { return patch.Same(p, q) })
	}
	more := slices.DeleteFunc(slices.Clone(l), there)
	if w.broken {
		return 0, api.ErrState
	}
	for _, p := range l {
		if _, e := patch.Id(p); e != api.OK {
			return 0, e
		}
	}
	for _, p := range more {
		for _, a := range p.Deps {
			if !slices.ContainsFunc(append(slices.Clone(w.m.patches), l...), func(q api.Patch) bool { return idOf(t, q) == a }) {
				return 0, api.ErrDeps
			}
		}
	}
	if len(more) == 0 {
		return 0, api.OK
	}
	more = inOrder(t, more)
	if e := w.write(w.m.put(t, more...)); e != api.OK {
		return 0, e
	}
	return len(more), api.OK
}

// open is an Open: whole frames are there that were there ahead of the call that failed, or behind it.
func (w *twin) open() api.Errno {
	if w.by.Down() {
		return api.ErrDown
	}
	m, s := w.m, w.by.All()
	if w.next != nil && strings.HasPrefix(s, w.next.bytes()) {
		m = w.next
	}
	if s != m.bytes() {
		if e := w.by.Cut(len(m.bytes())); e != api.OK {
			return e
		}
	}
	w.m, w.next, w.broken = m, nil, false
	return api.OK
}

// agree holds a store and its disk against what was done by hand.
func (w *twin) agree(t *testing.T) {
	t.Helper()
	says(t, w.s, w.m, w.broken)
	if w.s.Disk() != w.d || w.d.All() != w.by.All() || w.d.Kept() != w.by.Kept() || w.d.Waiting() != w.by.Waiting() || w.d.Down() != w.by.Down() {
		t.Fatalf("%.200q, %v, not %.200q, %v", w.d.All(), w.d.Down(), w.by.All(), w.by.Down())
	}
}

// step is a call, on the store, and by hand.
func (w *twin) step(t *testing.T, r *rand.Rand, l []api.Patch) {
	t.Helper()
	switch r.Intn(20) {
	case 0, 1, 2, 3:
		key, n := api.Id{byte(r.Intn(4))}, r.Intn(8)-1
		told(t, w.s.Raise(key, n), w.raise(key, n))
	case 4, 5, 6, 7, 8:
		n := r.Intn(len(l))
		part := mixed(r, l[n:min(n+r.Intn(4), len(l))])
		if r.Intn(9) == 0 {
			part = append(part, api.Patch{})
		}
		n, e := w.put(t, part)
		if k, f := w.s.Put(part); n != k || e != f {
			t.Fatalf("%s: %d, %d, not %d, %d", brief(part), k, f, n, e)
		}
	case 9:
		for _, d := range []*disk.Disk{w.d, w.by} {
			d.Crash(math.MaxUint64, 0)
		}
	case 10, 11:
		n, mask, count := r.Intn(6)-1, r.Uint64(), r.Intn(120)-1
		w.d.Arm(n, mask, count)
		w.by.Arm(n, mask, count)
	case 12, 13, 14:
		w.d.Start()
		w.by.Start()
	case 15, 16, 17, 18:
		x, e := store.Open(w.d)
		told(t, e, w.open())
		if (x == nil) != (e != api.OK) {
			t.Fatal(x, e)
		}
		if e == api.OK {
			w.s = x
		}
	case 19:
		want := api.ErrSame
		if w.by.Down() {
			want = api.ErrDown
		}
		refused(t, w.d, par, root, want)
	}
}

// P28.1, P28.2. Any calls behind any others, through crashes, held against the words.
func TestAnyCalls(t *testing.T) {
	r := rand.New(rand.NewSource(282))
	l := many(t, 6)
	for i := range 6 {
		l = append(l, on(t, "x"+strconv.Itoa(i), l[i], l[(i*i+3)%6]))
		l = append(l, on(t, "y"+strconv.Itoa(i)))
	}
	for i := range l {
		l[i].Deps = slices.Compact(l[i].Deps)
	}
	broken, frames := 0, 0
	for range 500 {
		s, d := created(t)
		w := &twin{s: s, d: d, by: d.Copy(), m: fresh()}
		for range 60 {
			w.step(t, r, l)
			w.agree(t)
			if w.broken {
				broken++
			}
		}
		frames += len(w.m.rows)
	}
	if broken < 2000 || frames < 2000 {
		t.Error(broken, frames)
	}
}

// spoil changes all rows of a patch, their spare room too.
func spoil(p api.Patch) {
	for _, l := range [][]api.Id{p.Deps, p.Sign.Shown, p.Sign.Hidden, p.Sign.Way} {
		for i := range l[:cap(l)] {
			l[:cap(l)][i] = api.Id{0: 99, 5: byte(i)}
		}
	}
	for i := range p.Ops[:cap(p.Ops)] {
		o := &p.Ops[:cap(p.Ops)][i]
		for _, l := range [][]string{o.Old, o.New} {
			for k := range l[:cap(l)] {
				l[:cap(l)][k] = "spoilt"
			}
		}
		*o = api.Op{Kind: 9}
	}
}

// roomy are two patches, the second one on top of the first, all whose rows have spare room, in a row that has.
func roomy(t *testing.T) []api.Patch {
	t.Helper()
	ids := func(n int) []api.Id { return append(make([]api.Id, 0, 8), make([]api.Id, n)...) }
	ops := append(make([]api.Op, 0, 8), create("a"), api.Op{Kind: api.Edit, Path: "a", New: append(make([]string, 0, 8), "x", "y")})
	one := api.Patch{Ops: ops, Sign: api.Signature{Shown: ids(3), Hidden: ids(2), Way: ids(1)}}
	two := api.Patch{Deps: append(make([]api.Id, 0, 8), idOf(t, one)), Ops: append(make([]api.Op, 0, 8), create("b"))}
	return append(make([]api.Patch, 0, 8), two, one, two)
}

// P28.1. What is handed in is neither changed nor kept, its spare room neither; a set that was told stays as it was.
func TestMemory(t *testing.T) {
	s, d := created(t)
	none := s.Set()
	l, want := roomy(t), roomy(t)
	m := fresh().put(t, want[1], want[0])
	if n, e := s.Put(l); n != 2 || e != api.OK || !reflect.DeepEqual(l[:8], roomy(t)[:8]) {
		t.Fatal(n, e)
	}
	for i, p := range roomy(t) {
		if !reflect.DeepEqual(l[i].Ops[:8], p.Ops[:8]) || i != 1 && !reflect.DeepEqual(l[i].Deps[:8], p.Deps[:8]) || i == 1 && !reflect.DeepEqual(l[i].Sign.Way[:8], p.Sign.Way[:8]) {
			t.Fatalf("%s", brief(l[i]))
		}
	}
	for _, p := range l {
		spoil(p)
	}
	clear(l[:8])
	is(t, s, d, m)
	for _, p := range s.Set().Patches() {
		spoil(p)
	}
	is(t, s, d, m)
	two := s.Set()
	told(t, s.Raise(api.Id{1}, 1), api.OK)
	m = puts(t, s, m.raised(api.Id{1}, 1), on(t, "x"))
	if none.Len() != 0 || two.Len() != 2 {
		t.Error(none.Len(), two.Len())
	}
	is(t, opened(t, d, m), d, m)
}

// P28.1. Of any bytes a store is opened, or they stay as they were; what is opened is opened again, just so.
func FuzzOpen(f *testing.F) {
	f.Add(fresh().bytes())
	f.Add(fresh().raised(api.Id{1}, 2).bytes() + "x")
	f.Fuzz(func(t *testing.T, b string) {
		d := disk.New()
		if d.Write(0, b) != api.OK {
			return
		}
		s, e := store.Open(d)
		if e != api.OK {
			if s != nil || d.All() != b || e != api.ErrNone && e != api.ErrForm {
				t.Fatal(s, e)
			}
			return
		}
		u, e := store.Open(d)
		if e != api.OK || !strings.HasPrefix(b, d.All()) || u.Frames() != s.Frames() || u.Set().Len() != s.Set().Len() || u.Params() != s.Params() || u.Root() != s.Root() {
			t.Fatal(e)
		}
	})
}
