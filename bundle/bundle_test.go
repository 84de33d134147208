package bundle_test

import (
	"encoding/binary"
	"fmt"
	"math/rand"
	"reflect"
	"slices"
	"strconv"
	"strings"
	"testing"

	"quitclaim/api"
	"quitclaim/bundle"
	"quitclaim/patch"
	"quitclaim/signer"
	"quitclaim/state"
)

// most is how many bytes a bundle has at most.
const most = 1 << 22

// brief is the beginning of a value's text.
func brief(v any) string {
	s := fmt.Sprint(v)
	return s[:min(len(s), 300)]
}

// create is an operation.
func create(s string) api.Op { return api.Op{Kind: api.Create, Path: s} }

// idOf is a patch's id.
func idOf(t *testing.T, p api.Patch) api.Id {
	t.Helper()
	a, e := patch.Id(p)
	if e != api.OK {
		t.Fatalf("%s: %d", brief(p), e)
	}
	return a
}

// idsOf are patches' ids.
func idsOf(t *testing.T, l ...api.Patch) []api.Id {
	t.Helper()
	var ids []api.Id
	for _, p := range l {
		ids = append(ids, idOf(t, p))
	}
	return ids
}

// less tells which one of two ids is ahead.
func less(a, b api.Id) int { return strings.Compare(string(a[:]), string(b[:])) }

// rising are ids, each once, in the order of their bytes.
func rising(l []api.Id) []api.Id {
	l = slices.Clone(l)
	slices.SortFunc(l, less)
	return slices.Compact(l)
}

// on is a patch on top of others.
func on(t *testing.T, note string, below ...api.Patch) api.Patch {
	t.Helper()
	return api.Patch{Deps: rising(idsOf(t, below...)), Note: note, Ops: []api.Op{create("a")}}
}

// ids are so many, rising.
func ids(n int) []api.Id {
	l := make([]api.Id, n)
	for i := range l {
		l[i] = api.Id{0: byte(i >> 8), 1: byte(i), 31: 7}
	}
	return l
}

// good are patches that are right, the edges among them, with signatures that can be written.
func good() []api.Patch {
	lines := slices.Repeat([]string{strings.Repeat("x", 200)}, 3)
	return []api.Patch{
		{Ops: []api.Op{create("a")}},
		{Key: api.Id{31: 1}, Note: "\x00\xff", Ops: []api.Op{create("a"), {Kind: api.Edit, Path: "a", At: 200, Old: lines[:1], New: lines}, {Kind: api.Grant, Path: "lib", Key: api.Id{1}, Depth: 8}}},
		{Deps: ids(16), Note: strings.Repeat("n", 400), Ops: slices.Repeat([]api.Op{create("b")}, 32), Sign: api.Signature{Leaf: 1 << 62, Shown: ids(256), Hidden: ids(256), Way: ids(10)}},
		{Deps: ids(1), Ops: []api.Op{{Kind: api.Revoke}}, Sign: api.Signature{Leaf: 300, Shown: ids(2), Way: ids(1)}},
	}
}

// wrong is a patch that has no bytes, and why.
type wrong struct {
	p api.Patch
	e api.Errno
}

// wrongs are such patches.
func wrongs() []wrong {
	ops := []api.Op{create("a")}
	return []wrong{
		{api.Patch{}, api.ErrArg}, {api.Patch{Ops: []api.Op{{}}}, api.ErrArg}, {api.Patch{Deps: []api.Id{{2}, {1}}, Ops: ops}, api.ErrOrder}, {api.Patch{Deps: make([]api.Id, 2), Ops: ops}, api.ErrOrder}, {api.Patch{Deps: ids(17), Ops: ops}, api.ErrLong}, {api.Patch{Note: strings.Repeat("n", 401), Ops: ops}, api.ErrLong},
		{api.Patch{Ops: []api.Op{create("a"), create("/")}}, api.ErrForm}, {api.Patch{Ops: []api.Op{{Kind: api.Grant, Depth: 9}}}, api.ErrRange}, {api.Patch{Ops: ops, Sign: api.Signature{Leaf: -1}}, api.ErrForm}, {api.Patch{Ops: ops, Sign: api.Signature{Shown: ids(257)}}, api.ErrForm},
	}
}

// number is a number, written.
func number(v int) string { return string(binary.AppendUvarint(nil, uint64(v))) }

// text is a text, written.
func text(s string) string { return number(len(s)) + s }

// bytesOf are a patch's.
func bytesOf(t *testing.T, p api.Patch) string {
	t.Helper()
	s, e := patch.Bytes(p)
	if e != api.OK {
		t.Fatalf("%s: %d", brief(p), e)
	}
	return s
}

// bundleOf is the bundle of patches, by the words.
func bundleOf(t *testing.T, l []api.Patch) string {
	t.Helper()
	s := "\x51\x43\x31" + number(len(l))
	for _, p := range l {
		s += text(bytesOf(t, p))
	}
	return s
}

// alike tells whether two rows of patches are one.
func alike(l, m []api.Patch) bool { return slices.EqualFunc(l, m, patch.Same) }

// mixed are patches in another order.
func mixed(r *rand.Rand, l []api.Patch) []api.Patch {
	l = slices.Clone(l)
	r.Shuffle(len(l), func(i, j int) { l[i], l[j] = l[j], l[i] })
	return l
}

// many are so many patches, each on top of the one ahead.
func many(t *testing.T, n int) []api.Patch {
	t.Helper()
	var l []api.Patch
	for i := range n {
		l = append(l, on(t, strconv.Itoa(i), l[max(i-1, 0):]...))
	}
	return l
}

// encodes looks what the bundle of patches is, and that it is read back.
func encodes(t *testing.T, l []api.Patch) {
	t.Helper()
	s, e := bundle.Encode(l)
	if s != bundleOf(t, l) || e != api.OK {
		t.Fatalf("%s: %.99q, %d", brief(l), s, e)
	}
	if back, e := bundle.Parse(s); e != api.OK || !alike(back, l) {
		t.Fatalf("%s: %s, %d", brief(l), brief(back), e)
	}
}

// P26.1, P26.2. Bundles of any patches, as these stand, also in no order, and twice: worked out anew, and read back.
func TestEncode(t *testing.T) {
	encodes(t, nil)
	encodes(t, []api.Patch{})
	if s, e := bundle.Encode(nil); s != "\x51\x43\x31\x00" || e != api.OK {
		t.Errorf("%q, %d", s, e)
	}
	l := good()
	for i := range l {
		encodes(t, l[i:])
		encodes(t, l[:i])
		encodes(t, []api.Patch{l[i], l[0], l[i], l[i]})
	}
	encodes(t, append(many(t, 5), l...))
	l = many(t, 1000)
	slices.Reverse(l)
	for _, n := range []int{127, 128, 200, 999, 1000} {
		encodes(t, l[:n])
	}
}

// fails looks whether patches have no bundle, by an error.
func fails(t *testing.T, want api.Errno, l ...api.Patch) {
	t.Helper()
	if s, e := bundle.Encode(l); s != "" || e != want {
		t.Errorf("%s: %.99q, %d, not %d", brief(l), s, e, want)
	}
}

// P26.1. What has no bundle: too many patches ahead of all else, then the first one that has no bytes.
func TestEncodeErrors(t *testing.T) {
	l := many(t, 1001)
	fails(t, api.ErrLong, l...)
	fails(t, api.ErrLong, slices.Repeat(good()[:1], 2000)...)
	for _, x := range wrongs() {
		fails(t, x.e, x.p)
		fails(t, x.e, append(good(), x.p)...)
		fails(t, x.e, append(slices.Clone(l[:999]), x.p)...)
		fails(t, api.ErrLong, append(slices.Clone(l[:1000]), x.p)...)
		fails(t, api.ErrLong, append([]api.Patch{x.p}, l[:1000]...)...)
		for _, y := range wrongs() {
			fails(t, x.e, append([]api.Patch{l[0], x.p, l[1], y.p}, good()...)...)
		}
	}
}

// sized is a patch of just so many bytes.
func sized(t *testing.T, size int) api.Patch {
	t.Helper()
	wide := slices.Repeat([]string{strings.Repeat("x", 200)}, 1000)
	p := api.Patch{Ops: []api.Op{create("a")}}
	// Each of those lines takes 202 bytes, and an operation some more; what they leave is the note's.
	left := size - len(bytesOf(t, p))
	for left > 400 {
		n := min((left-190)/202, 1000)
		p.Ops = append(p.Ops, api.Op{Kind: api.Edit, Path: "a", New: wide[:n]})
		left -= 5 + len(number(n)) + 202*n
	}
	p.Note = strings.Repeat("n", left-1)
	if len(bytesOf(t, p)) != size {
		t.Fatal(len(bytesOf(t, p)), size)
	}
	return p
}

// filled are patches whose bundle has just so many bytes: one, two, and many.
func filled(t *testing.T, size int) [][]api.Patch {
	t.Helper()
	l := [][]api.Patch{{sized(t, size-8)}, {sized(t, size-800011), sized(t, 800000)}, append(good(), good()...)}
	l[2] = append(l[2], sized(t, size-len(bundleOf(t, l[2]))-4))
	for _, x := range l {
		if len(bundleOf(t, x)) != size {
			t.Fatal(len(bundleOf(t, x)), size)
		}
	}
	return l
}

// P26.1, P26.2. A bundle may have MaxBytes bytes, and not one more; a patch that has no bytes is told ahead of that.
func TestEncodeLong(t *testing.T) {
	great := sized(t, most)
	for _, l := range filled(t, most) {
		encodes(t, l)
		for _, more := range [][]api.Patch{good()[:1], {great}} {
			fails(t, api.ErrLong, slices.Concat(l, more)...)
			for _, x := range wrongs()[:3] {
				fails(t, x.e, append(slices.Concat(l, more), x.p)...)
			}
		}
	}
	for _, l := range filled(t, most+1) {
		fails(t, api.ErrLong, l...)
	}
	fails(t, api.ErrLong, great)
	fails(t, api.ErrLong, sized(t, most+1))
	fails(t, api.ErrLong, sized(t, 6000000), good()[0])
	fails(t, api.ErrLong, slices.Repeat([]api.Patch{sized(t, 5000)}, 1000)...)
	fails(t, api.ErrLong, slices.Repeat([]api.Patch{great}, 10)...)
}

// refused looks whether bytes are no bundle, by an error.
func refused(t *testing.T, s string, want api.Errno) {
	t.Helper()
	if l, e := bundle.Parse(s); l != nil || e != want {
		t.Errorf("%.200q: %s, %d, not %d", s, brief(l), e, want)
	}
}

// once looks whether of bytes that are parsed just these are Encode's, and tells whether they are.
func once(t *testing.T, s string) bool {
	t.Helper()
	l, e := bundle.Parse(s)
	if e != api.OK {
		if l != nil {
			t.Fatalf("%.200q: %s beside %d", s, brief(l), e)
		}
		return false
	}
	if back, e := bundle.Encode(l); e != api.OK || back != s {
		t.Fatalf("%.200q: %s, whose bundle is %.200q, %d", s, brief(l), back, e)
	}
	return true
}

// P26.1. What is wrong is told as it is read, from the front on.
func TestParseWrong(t *testing.T) {
	all := bytesOf(t, good()[0])
	p := text(all)
	deps := bytesOf(t, api.Patch{Deps: []api.Id{{1}, {2}}, Ops: []api.Op{create("a")}})
	falls := deps[:1] + deps[33:65] + deps[1:33] + deps[65:]
	for _, x := range []struct {
		s    string
		want api.Errno
	}{
		{"", api.ErrShort}, {"Q", api.ErrShort}, {"QC", api.ErrShort}, {"X", api.ErrShort}, {"QX", api.ErrShort}, {"XXX", api.ErrForm}, {"qC1\x00", api.ErrForm}, {"Qc1\x00", api.ErrForm}, {"QC2\x00", api.ErrForm}, {"1CQ\x00", api.ErrForm}, {"\x00QC1\x00", api.ErrForm}, {"QC2" + number(1001), api.ErrForm},
		{"QC1", api.ErrShort}, {"QC1\x80", api.ErrShort}, {"QC1\x80\x00", api.ErrForm}, {"QC1\x81\x00" + p, api.ErrForm}, {"QC1\xff\xff\xff\xff\xff\xff\xff\xff\x41", api.ErrForm},
		{"QC1" + number(1000), api.ErrShort}, {"QC1" + number(1001), api.ErrLong}, {"QC1" + number(1001) + "\x80\x00", api.ErrLong}, {"QC1" + number(1<<62), api.ErrLong}, {"QC1" + number(1001) + strings.Repeat(p, 1001), api.ErrLong}, {"QC1" + number(1000) + strings.Repeat(p, 999), api.ErrShort}, {"QC1" + number(1000) + strings.Repeat(p, 1001), api.ErrForm},
		{"QC1\x00x", api.ErrForm}, {"QC1\x00\x00", api.ErrForm}, {"QC1\x00" + p, api.ErrForm}, {"QC1\x01", api.ErrShort}, {"QC1\x01" + number(most), api.ErrShort}, {"QC1\x01" + number(most+1), api.ErrLong}, {"QC1\x01" + number(1<<62), api.ErrLong}, {"QC1\x01\x80\x00", api.ErrForm}, {"QC1\x01\x00", api.ErrShort}, {"QC1\x01\x00x", api.ErrShort}, {"QC1\x01" + p[:len(p)-1], api.ErrShort},
		{"QC1\x01" + p + "\x00", api.ErrForm}, {"QC1\x01" + p + p, api.ErrForm}, {"QC1\x02" + p, api.ErrShort}, {"QC1\x02" + p + "\x80\x00", api.ErrForm}, {"QC1\x02" + p + number(most+1), api.ErrLong}, {"QC1\x02" + p + text("x"), api.ErrLong}, {"QC1\x02" + p + text("\x01"), api.ErrShort},
		{"QC1\x01" + text(all+"x"), api.ErrForm}, {"QC1\x01" + text(all[:len(all)-1]), api.ErrShort}, {"QC1\x01" + text(falls), api.ErrOrder}, {"QC1\x01" + text(number(17)), api.ErrLong}, {"QC1\x02" + text(falls), api.ErrOrder}, {"QC1\x01" + text(falls) + "x", api.ErrOrder}, {"QC1\x02" + p + text(falls), api.ErrOrder}, {"QC1\x02" + text(falls) + text(number(17)), api.ErrOrder}, {"QC1\x02" + text(number(17)) + text(falls), api.ErrLong}, {"QC1\x03" + p + text(all+"x") + text(falls), api.ErrForm},
	} {
		refused(t, x.s, x.want)
	}
	for _, s := range []string{"QC1\x00", "QC1\x01" + p, "QC1\x02" + p + p, "QC1" + number(1000) + strings.Repeat(p, 1000), "QC1\x01" + text(deps)} {
		if !once(t, s) {
			t.Errorf("%.99q is no bundle", s)
		}
	}
}

// P26.1, P26.2. Bytes may be MaxBytes, but not one more, whatever they are.
func TestParseLong(t *testing.T) {
	for _, l := range filled(t, most) {
		s := bundleOf(t, l)
		if !once(t, s) {
			t.Error("no bundle")
		}
		refused(t, s+"\x00", api.ErrLong)
		refused(t, s[:most-1], api.ErrShort)
	}
	for _, l := range filled(t, most+1) {
		refused(t, bundleOf(t, l), api.ErrLong)
	}
	refused(t, strings.Repeat("x", most), api.ErrForm)
	refused(t, strings.Repeat("x", most+1), api.ErrLong)
	refused(t, "QC1\x00"+strings.Repeat("\x00", most-4), api.ErrForm)
	refused(t, "QC1\x00"+strings.Repeat("\x00", most-3), api.ErrLong)
	refused(t, "QC1\x01"+number(most-8)+strings.Repeat("\x00", most-8), api.ErrForm)
}

// small is a bundle of few bytes, with something of each sort.
func small(t *testing.T) string {
	t.Helper()
	return bundleOf(t, []api.Patch{good()[3], good()[0], good()[0]})
}

// P26.1, P26.2. Bytes cut short, and with one byte changed, or put in, or left out.
func TestParseChanged(t *testing.T) {
	s := small(t)
	if !once(t, s) {
		t.Fatal("no bundle")
	}
	parsed := 0
	for i := range len(s) {
		refused(t, s[:i], api.ErrShort)
		once(t, s[:i]+s[i+1:])
		for b := range 256 {
			if once(t, s[:i]+string([]byte{byte(b)})+s[i+1:]) {
				parsed++
			}
			once(t, s[:i]+string([]byte{byte(b)})+s[i:])
		}
	}
	if parsed < 1000 {
		t.Error(parsed)
	}
}

// FuzzParse looks at any bytes.
func FuzzParse(f *testing.F) {
	f.Add("QC1\x00")
	f.Add("QC1\x01\x2b\x00" + strings.Repeat("k", 32) + "\x02no\x01\x01\x01a\x00\x00\x00\x00")
	f.Fuzz(func(t *testing.T, s string) { once(t, s) })
}

// inOrder are patches in order, by the words: again and again that with the least id, of those that aren't there yet, and don't wait for one of the others.
func inOrder(t *testing.T, l []api.Patch) []api.Patch {
	t.Helper()
	left := map[api.Id]api.Patch{}
	for _, p := range l {
		left[idOf(t, p)] = p
	}
	var row []api.Patch
	for len(left) > 0 {
		var next []api.Id
		for a, p := range left {
			if !slices.ContainsFunc(p.Deps, func(b api.Id) bool { _, waits := left[b]; return waits }) {
				next = append(next, a)
			}
		}
		a := rising(next)[0]
		row = append(row, left[a])
		delete(left, a)
	}
	return row
}

// grown are so many patches that hang on one another, and on some that aren't there.
func grown(t *testing.T, r *rand.Rand, n int) []api.Patch {
	t.Helper()
	var l []api.Patch
	for range n {
		var below []api.Patch
		for _, p := range l {
			if r.Intn(3) == 0 {
				below = append(below, p)
			}
		}
		p := on(t, strconv.Itoa(r.Intn(1<<20)), below...)
		if r.Intn(3) == 0 {
			p.Deps = rising(append(p.Deps, api.Id{byte(r.Intn(256))}))
		}
		l = append(l, p)
	}
	return l
}

// sorts looks what patches are in order, and which rows of them are.
func sorts(t *testing.T, l, want []api.Patch) {
	t.Helper()
	got, e := bundle.Sorted(l)
	if e != api.OK || !alike(got, want) {
		t.Fatalf("%s: %s, %d, not %s", brief(l), brief(got), e, brief(want))
	}
	if bundle.Ordered(l) != alike(l, want) || !bundle.Ordered(want) || !bundle.Ordered(got) {
		t.Fatalf("%s, %s: %v, %v", brief(l), brief(want), bundle.Ordered(l), bundle.Ordered(want))
	}
}

// P26.1. Patches that hang on one another in all ways, handed in in several orders, some of them left out, some twice.
func TestSorted(t *testing.T) {
	r := rand.New(rand.NewSource(26))
	sorted := 0
	for range 1500 {
		l := grown(t, r, r.Intn(8))
		l = mixed(r, slices.DeleteFunc(l, func(api.Patch) bool { return r.Intn(5) == 0 }))
		want := inOrder(t, l)
		for range 3 {
			sorts(t, mixed(r, l), want)
			if bundle.Ordered(l) {
				sorted++
			}
			if len(l) > 0 {
				sorts(t, mixed(r, append(slices.Clone(l), l[r.Intn(len(l))], l[0])), want)
				sorts(t, append(slices.Clone(want), want[r.Intn(len(l))]), want)
				sorts(t, append([]api.Patch{want[0]}, want...), want)
				sorts(t, want, want)
			}
		}
	}
	if sorted < 100 {
		t.Error(sorted)
	}
}

// P26.1. Of all orders of patches one alone is theirs.
func TestOrders(t *testing.T) {
	r := rand.New(rand.NewSource(261))
	for range 30 {
		l := grown(t, r, 5)
		want, ordered := inOrder(t, l), 0
		permuted(l, 0, func(l []api.Patch) {
			sorts(t, l, want)
			if bundle.Ordered(l) {
				ordered++
			}
		})
		if ordered != 1 {
			t.Errorf("%s: %d", brief(l), ordered)
		}
	}
}

// permuted hands a row over in all orders of its items from a place on.
func permuted(l []api.Patch, from int, look func([]api.Patch)) {
	if from == len(l) {
		look(slices.Clone(l))
	}
	for i := from; i < len(l); i++ {
		l[from], l[i] = l[i], l[from]
		permuted(l, from+1, look)
		l[from], l[i] = l[i], l[from]
	}
}

// P26.1. No patches, one, and more than a bundle may have.
func TestSortedEdges(t *testing.T) {
	r := rand.New(rand.NewSource(262))
	for _, none := range [][]api.Patch{nil, {}} {
		sorts(t, none, nil)
	}
	for _, p := range good() {
		sorts(t, []api.Patch{p}, []api.Patch{p})
		sorts(t, []api.Patch{p, p, p}, []api.Patch{p})
	}
	l := many(t, 1500)
	sorts(t, mixed(r, l), l)
	sorts(t, mixed(r, append(slices.Clone(l), l...)), l)
	// A patch stands behind those of its Deps that are there, not behind what these hang on elsewhere.
	top, low := l[2], l[0]
	want := []api.Patch{top, low}
	slices.SortFunc(want, func(p, q api.Patch) int { return less(idOf(t, p), idOf(t, q)) })
	sorts(t, []api.Patch{top, low}, want)
	sorts(t, []api.Patch{low, top}, want)
}

// P26.1. The first patch that has no id is told.
func TestSortedErrors(t *testing.T) {
	base := many(t, 4)
	for _, x := range wrongs() {
		for _, y := range wrongs() {
			for at := range len(base) + 1 {
				l := append(slices.Insert(slices.Clone(base), at, x.p), base[0], y.p)
				if got, e := bundle.Sorted(l); got != nil || e != x.e {
					t.Errorf("%s: %s, %d, not %d", brief(l), brief(got), e, x.e)
				}
				if bundle.Ordered(l) || bundle.Ordered(slices.Insert(slices.Clone(base), at, x.p)) {
					t.Errorf("%s in order", brief(l))
				}
			}
		}
	}
}

// made is the set of patches.
func made(t *testing.T, l []api.Patch) *state.Set {
	t.Helper()
	s, e := state.New(l)
	if e != api.OK {
		t.Fatalf("%s: %d", brief(l), e)
	}
	return s
}

// whole are so many patches that hang on one another alone.
func whole(t *testing.T, r *rand.Rand, n int) []api.Patch {
	t.Helper()
	var l []api.Patch
	for range n {
		l = append(l, on(t, strconv.Itoa(r.Intn(1<<20)), slices.DeleteFunc(slices.Clone(l), func(api.Patch) bool { return r.Intn(3) > 0 })...))
	}
	return l
}

// cones are some of patches, with all on which they hang.
func cones(t *testing.T, l []api.Patch, some []api.Id) []api.Patch {
	t.Helper()
	var out []api.Patch
	for _, p := range l {
		if a := idOf(t, p); slices.Contains(some, a) {
			out = append(append(out, p), cones(t, l, p.Deps)...)
		}
	}
	return out
}

// P26.1, P26.3. Exports of all parts of sets, that came in several orders: the patches, and all on which they hang, in order.
func TestExport(t *testing.T) {
	r := rand.New(rand.NewSource(263))
	for range 60 {
		l := whole(t, r, r.Intn(6))
		other := made(t, nil)
		for i := range l {
			var e api.Errno
			if other, e = other.With(mixed(r, l[:i+1])); e != api.OK {
				t.Fatal(e)
			}
		}
		sets := []*state.Set{made(t, mixed(r, l)), made(t, mixed(r, l)), other}
		for bits := range 1 << len(l) {
			var some []api.Id
			for i, p := range l {
				if bits>>i&1 == 1 {
					some = append(some, idOf(t, p))
				}
			}
			want := bundleOf(t, inOrder(t, cones(t, l, some)))
			for _, s := range sets {
				r.Shuffle(len(some), func(i, j int) { some[i], some[j] = some[j], some[i] })
				before := append(slices.Clone(some), some...)
				twice := slices.Clone(before)
				if got, e := bundle.Export(s, some); got != want || e != api.OK {
					t.Fatalf("%s, %x: %.99q, %d", brief(l), some, got, e)
				}
				if got, e := bundle.Export(s, twice); got != want || e != api.OK || !slices.Equal(twice, before) {
					t.Fatalf("%s, %x: %.99q, %d", brief(l), twice, got, e)
				}
				misses(t, s, some)
			}
		}
	}
}

// misses looks whether there is no export where one of the ids isn't in the set.
func misses(t *testing.T, s *state.Set, l []api.Id) {
	t.Helper()
	for _, a := range []api.Id{{}, {1}, {31: 1}} {
		for _, at := range []int{0, len(l) / 2, len(l)} {
			if got, e := bundle.Export(s, slices.Insert(slices.Clone(l), at, a)); got != "" || e != api.ErrNone {
				t.Fatalf("%x: %.99q, %d", l, got, e)
			}
		}
	}
}

// P26.1. An export of no patches, of all of a full set, and of more bytes than may be.
func TestExportEdges(t *testing.T) {
	r := rand.New(rand.NewSource(264))
	for _, none := range [][]api.Id{nil, {}} {
		for _, s := range []*state.Set{made(t, nil), made(t, good()[:2])} {
			if got, e := bundle.Export(s, none); got != "QC1\x00" || e != api.OK {
				t.Errorf("%q, %d", got, e)
			}
		}
	}
	l := many(t, 1000)
	s := made(t, mixed(r, l))
	for _, n := range []int{1, 127, 500, 1000} {
		if got, e := bundle.Export(s, idsOf(t, l[n-1])); got != bundleOf(t, l[:n]) || e != api.OK {
			t.Errorf("%d: %d bytes, %d", n, len(got), e)
		}
	}
	if got, e := bundle.Export(s, s.Ids()); got != bundleOf(t, l) || e != api.OK {
		t.Errorf("%d bytes, %d", len(got), e)
	}
	for _, l := range filled(t, most)[:2] {
		s := made(t, append(slices.Clone(l), good()[0]))
		if got, e := bundle.Export(s, idsOf(t, l...)); got != bundleOf(t, inOrder(t, l)) || e != api.OK {
			t.Errorf("%d bytes, %d", len(got), e)
		}
		if got, e := bundle.Export(s, s.Ids()); got != "" || e != api.ErrLong {
			t.Errorf("%d bytes, %d", len(got), e)
		}
		if got, e := bundle.Export(s, append(s.Ids(), api.Id{})); got != "" || e != api.ErrNone {
			t.Errorf("%d bytes, %d", len(got), e)
		}
	}
}

// P26.1, P26.2, P26.3. Signed patches go from one set into another one, and are still verified.
func TestSigned(t *testing.T) {
	par := api.Params{Bits: 16, Height: 3}
	k, e := signer.New(par, "seed", 0)
	if e != api.OK {
		t.Fatal(e)
	}
	var l []api.Patch
	for i := range 6 {
		p, e := patch.Make(k, idsOf(t, l[i/2:i]...), strconv.Itoa(i), []api.Op{create(strconv.Itoa(i))})
		if e != api.OK {
			t.Fatal(e)
		}
		l = append(l, p)
	}
	encodes(t, l)
	s, e := bundle.Export(made(t, l), idsOf(t, l[4]))
	if e != api.OK || s != bundleOf(t, inOrder(t, l[:5])) {
		t.Fatal(e)
	}
	got, e := bundle.Parse(s)
	if e != api.OK || len(got) != 5 || !bundle.Ordered(got) {
		t.Fatal(len(got), e)
	}
	for _, p := range got {
		if e := patch.Verify(par, p); e != api.OK {
			t.Error(e)
		}
	}
	if again, e := bundle.Export(made(t, got), made(t, got).Graph().Heads()); again != s || e != api.OK {
		t.Errorf("%.99q, %d", again, e)
	}
}

// roomy are two patches, the second one on top of the first, all whose rows have spare room, in a row that has.
func roomy(t *testing.T) []api.Patch {
	t.Helper()
	ids := func(n int) []api.Id { return append(make([]api.Id, 0, 8), make([]api.Id, n)...) }
	lines := func(l ...string) []string { return append(make([]string, 0, 8), l...) }
	ops := append(make([]api.Op, 0, 8), create("a"), api.Op{Kind: api.Edit, Path: "a", New: lines("x", "y")})
	low := api.Patch{Deps: append(make([]api.Id, 0, 8), api.Id{3}, api.Id{5}), Ops: ops, Sign: api.Signature{Shown: ids(3), Hidden: ids(2), Way: ids(1)}}
	ops = append(make([]api.Op, 0, 8), api.Op{Kind: api.Edit, Path: "a", Old: lines("x"), New: lines("z")})
	deps := append(make([]api.Id, 0, 8), rising([]api.Id{{1}, idOf(t, low), {0: 255, 31: 255}})...)
	top := api.Patch{Deps: deps, Ops: ops, Sign: api.Signature{Shown: ids(1), Hidden: ids(1), Way: ids(4)}}
	return append(make([]api.Patch, 0, 8), top, low, top)
}

// spoil changes all rows of a patch, their spare room too.
func spoil(p api.Patch) {
	for _, l := range [][]api.Id{p.Deps, p.Sign.Shown, p.Sign.Hidden, p.Sign.Way} {
		for i := range l[:cap(l)] {
			l[:cap(l)][i] = api.Id{0: 99, 5: byte(i)}
		}
	}
	for i := range p.Ops[:cap(p.Ops)] {
		o := &p.Ops[:cap(p.Ops)][i]
		for _, l := range [][]string{o.Old, o.New} {
			for k := range l[:cap(l)] {
				l[:cap(l)][k] = "spoilt"
			}
		}
		*o = api.Op{Kind: 9}
	}
}

// stretched is a patch with all the spare room of its rows.
func stretched(p api.Patch) api.Patch {
	p.Deps, p.Ops = p.Deps[:cap(p.Deps)], slices.Clone(p.Ops[:cap(p.Ops)])
	p.Sign.Shown, p.Sign.Hidden, p.Sign.Way = p.Sign.Shown[:cap(p.Sign.Shown)], p.Sign.Hidden[:cap(p.Sign.Hidden)], p.Sign.Way[:cap(p.Sign.Way)]
	for i, o := range p.Ops {
		p.Ops[i].Old, p.Ops[i].New = o.Old[:cap(o.Old)], o.New[:cap(o.New)]
	}
	return p
}

// P26.1. What is handed in is neither changed nor kept, its spare room neither; what is told is memory of its own.
func TestMemory(t *testing.T) {
	l := roomy(t)
	s, e := bundle.Encode(l)
	if e != api.OK {
		t.Fatal(e)
	}
	first, e := bundle.Sorted(l)
	second, f := bundle.Sorted(l)
	if e != api.OK || f != api.OK || len(first) != 2 || bundle.Ordered(l) {
		t.Fatal(len(first), e, f)
	}
	for i, p := range roomy(t)[:8] {
		if !reflect.DeepEqual(stretched(l[:8][i]), stretched(p)) {
			t.Fatalf("%s, not %s", brief(l[:8][i]), brief(p))
		}
	}
	for _, p := range append(first, l...) {
		spoil(p)
	}
	clear(first[:cap(first)])
	if want := inOrder(t, roomy(t)); !alike(second, want) {
		t.Errorf("%s, not %s", brief(second), brief(want))
	}
	first, _ = bundle.Parse(s)
	second, _ = bundle.Parse(s)
	spoil(first[0])
	spoil(first[1])
	if want := roomy(t); !patch.Same(first[2], want[2]) || !alike(second, want) {
		t.Errorf("%s, not %s", brief(second), brief(want))
	}
}
