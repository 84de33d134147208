package patch_test

import (
	"crypto/sha256"
	"encoding/binary"
	"fmt"
	"reflect"
	"slices"
	"strings"
	"testing"

	"quitclaim/api"
	"quitclaim/op"
	"quitclaim/pack"
	"quitclaim/patch"
	"quitclaim/signer"
)

// create is the least operation that is right.
var create = api.Op{Kind: 1, Path: "a"}

// brief is the beginning of a value's text.
func brief(v any) string {
	s := fmt.Sprint(v)
	return s[:min(len(s), 300)]
}

// ids are so many, rising.
func ids(n int) []api.Id {
	l := make([]api.Id, n)
	for i := range l {
		l[i] = api.Id{0: byte(i >> 8), 1: byte(i), 31: 7}
	}
	return l
}

// repeated is so many operations, all one.
func repeated(o api.Op, n int) []api.Op { return slices.Repeat([]api.Op{o}, n) }

// note is one of so many bytes.
func note(n int) string { return strings.Repeat("n", n) }

// ops are operations of all kinds.
func ops() []api.Op {
	return []api.Op{
		{Kind: 1, Path: "a/b"}, {Kind: 2, Path: "a", Old: []string{"x", ""}}, {Kind: 3, Path: "c", At: 300, Old: []string{"y"}, New: []string{"z\x00", "\xff"}}, {Kind: 4, Path: "a", To: "b"},
		{Kind: 5, Key: api.Id{5: 5}, Depth: 8}, {Kind: 5, Path: "lib", Key: api.Id{31: 1}}, {Kind: 6, Path: "lib", Key: api.Id{1}},
	}
}

// signature is one that can be written, with so many sums in its rows.
func signature(leaf, shown, hidden, way int) api.Signature {
	l := ids(600)
	return api.Signature{Leaf: leaf, Shown: slices.Clone(l[:shown]), Hidden: slices.Clone(l[shown : shown+hidden]), Way: slices.Clone(l[590-way : 590])}
}

// good are patches that are right, the edges among them, with signatures that can be written, though of no key.
func good() []api.Patch {
	return []api.Patch{
		{Ops: []api.Op{create}},
		{Deps: ids(1), Key: api.Id{1, 2}, Note: "note", Ops: ops(), Sign: signature(3, 8, 8, 2)},
		{Deps: ids(16), Key: api.Id{31: 255}, Note: note(400), Ops: repeated(create, 32), Sign: signature(1<<62, 256, 256, 10)},
		{Deps: ids(16)[3:9], Note: "\x00\xff\n", Ops: append(ops(), ops()...), Sign: signature(1023, 256, 0, 0)},
		{Note: note(127), Ops: []api.Op{{Kind: 3, Path: "a", New: slices.Repeat([]string{strings.Repeat("x", 200)}, 1000)}}, Sign: signature(127, 0, 256, 1)},
		{Deps: ids(2), Note: note(128), Ops: []api.Op{{Kind: 6}}, Sign: signature(128, 1, 2, 3)},
	}
}

// number is a number, written.
func number(v int) string { return string(binary.AppendUvarint(nil, uint64(v))) }

// text is a text, written.
func text(s string) string { return number(len(s)) + s }

// row is a row of ids, written.
func row(l []api.Id) string {
	s := number(len(l))
	for _, a := range l {
		s += string(a[:])
	}
	return s
}

// bodyOf is a patch's body, by the words.
func bodyOf(p api.Patch) string {
	s := row(p.Deps) + string(p.Key[:]) + text(p.Note) + number(len(p.Ops))
	for _, o := range p.Ops {
		w := &pack.Writer{}
		op.Put(w, o)
		s += w.String()
	}
	return s
}

// bytesOf is a patch whole, by the words.
func bytesOf(p api.Patch) string {
	return bodyOf(p) + number(p.Sign.Leaf) + row(p.Sign.Shown) + row(p.Sign.Hidden) + row(p.Sign.Way)
}

// sumOf is the tagged sum of one part, by the words.
func sumOf(name, part string) api.Id {
	b := append([]byte{byte(len(name))}, name...)
	b = binary.BigEndian.AppendUint64(b, uint64(len(part)))
	return sha256.Sum256(append(b, part...))
}

// bad are patches that aren't right, and what is wrong with each: of several things the one that is named first.
func bad() map[api.Errno][]api.Patch {
	one, wrong := []api.Op{create}, []api.Op{{Kind: 9}}
	falls := []api.Id{{2}, {1}}
	twice := []api.Id{{1}, {2}, {2}}
	later := append(ids(15), api.Id{})
	return map[api.Errno][]api.Patch{
		api.ErrLong: {
			{Deps: ids(17), Ops: one}, {Deps: ids(300), Ops: one}, {Deps: slices.Repeat(falls, 9), Ops: one}, {Deps: ids(17)}, {Deps: make([]api.Id, 17), Note: note(401), Ops: wrong},
			{Note: note(401), Ops: one}, {Note: note(1 << 20), Ops: one}, {Deps: ids(16), Note: note(401)}, {Note: note(401), Ops: wrong}, {Note: note(401), Ops: repeated(create, 33)},
			{Ops: repeated(create, 33)}, {Ops: make([]api.Op, 33)}, {Deps: ids(16), Note: note(400), Ops: append(repeated(create, 32), wrong...)}, {Ops: repeated(create, 1<<16)},
		},
		api.ErrOrder: {
			{Deps: falls, Ops: one}, {Deps: twice, Ops: one}, {Deps: later, Ops: one}, {Deps: make([]api.Id, 2), Ops: one}, {Deps: falls}, {Deps: twice, Note: note(401)}, {Deps: falls, Ops: wrong}, {Deps: later, Ops: repeated(create, 33)},
		},
		api.ErrArg: {
			{}, {Ops: []api.Op{}}, {Deps: ids(16), Note: note(400)}, {Sign: signature(-1, 300, 0, 0)}, {Ops: wrong}, {Ops: make([]api.Op, 1)}, {Ops: append(repeated(create, 31), wrong...)}, {Ops: append(wrong, api.Op{Kind: 1}, api.Op{Kind: 5, Depth: 9})},
		},
		api.ErrForm: {
			{Ops: []api.Op{{Kind: 1}}}, {Ops: []api.Op{create, {Kind: 3, Path: "a"}}}, {Ops: append(repeated(create, 31), api.Op{Kind: 4, Path: "a", To: "a"})}, {Ops: []api.Op{create, {Kind: 1, Path: "a", Depth: 9}, {Kind: 9}, {Kind: 5, Depth: 9}}},
		},
		api.ErrRange: {
			{Ops: []api.Op{{Kind: 5, Depth: 9}}}, {Ops: []api.Op{create, {Kind: 5, Depth: -1}, {Kind: 1}, {Kind: 9}}}, {Ops: append(repeated(create, 31), api.Op{Kind: 5, Path: "a", Depth: 1 << 60})},
		},
	}
}

// P15.1. What is right, and what isn't: whatever its signature is.
func TestRight(t *testing.T) {
	for _, p := range good() {
		p.Sign = api.Signature{}
		for _, x := range []api.Signature{{}, signature(-1, 300, 290, 0), signature(1, 2, 3, 11)} {
			p.Sign = x
			if e := patch.Right(p); e != api.OK {
				t.Errorf("%s: %d", brief(p), e)
			}
		}
	}
	for want, l := range bad() {
		for _, p := range l {
			if e := patch.Right(p); e != want {
				t.Errorf("%s: %d, not %d", brief(p), e, want)
			}
		}
	}
}

// P15.1. Of what isn't right each call tells what Right does, and nothing else.
func TestNotRight(t *testing.T) {
	s, _ := signer.New(api.Params{Bits: 8, Height: 0}, "s", 0)
	for want, l := range bad() {
		for _, p := range l {
			for _, x := range []api.Signature{{}, signature(-1, 300, 290, 0), signature(0, 8, 8, 0)} {
				p.Sign = x
				body, e := patch.Body(p)
				sum, f := patch.Sum(p)
				if body != "" || sum != (api.Id{}) || e != want || f != want {
					t.Errorf("%s: %.99q, %d, %x, %d", brief(p), body, e, sum, f)
				}
				all, e := patch.Bytes(p)
				own, f := patch.Id(p)
				if all != "" || own != (api.Id{}) || e != want || f != want {
					t.Errorf("%s: %.99q, %d, %x, %d", brief(p), all, e, own, f)
				}
				for _, par := range []api.Params{{}, {Bits: 8}} {
					if e := patch.Verify(par, p); e != want {
						t.Errorf("%s: %d", brief(p), e)
					}
				}
			}
			// Only the order of the deps, and what is twice among them, is mended by Make.
			sorted := patch.Right(api.Patch{Deps: dense(p.Deps), Note: p.Note, Ops: p.Ops})
			if sorted == api.OK {
				continue
			}
			if made, e := patch.Make(s, p.Deps, p.Note, p.Ops); e != sorted || !reflect.DeepEqual(made, api.Patch{}) || s.Next() != 0 {
				t.Errorf("%s: %s, %d", brief(p), brief(made), e)
			}
		}
	}
}

// dense is the same ids, each once, rising.
func dense(l []api.Id) []api.Id {
	m := slices.SortedFunc(slices.Values(l), func(a, b api.Id) int { return strings.Compare(string(a[:]), string(b[:])) })
	return slices.Compact(m)
}

// P15.1. Bodies, sums, bytes and ids, worked out anew.
func TestWritten(t *testing.T) {
	known := map[api.Id]bool{}
	for _, p := range good() {
		body, e := patch.Body(p)
		if body != bodyOf(p) || e != api.OK {
			t.Errorf("%s: %.99q, %d", brief(p), body, e)
		}
		sum, e := patch.Sum(p)
		if sum != sumOf("patch", bodyOf(p)) || e != api.OK {
			t.Errorf("%s: %x, %d", brief(p), sum, e)
		}
		all, e := patch.Bytes(p)
		if all != bytesOf(p) || e != api.OK {
			t.Errorf("%s: %.99q, %d", brief(p), all, e)
		}
		own, e := patch.Id(p)
		if own != sumOf("id", bytesOf(p)) || e != api.OK {
			t.Errorf("%s: %x, %d", brief(p), own, e)
		}
		if known[sum] || known[own] || sum == own {
			t.Errorf("%s: %x, %x again", brief(p), sum, own)
		}
		known[sum], known[own] = true, true
	}
	all, _ := patch.Bytes(api.Patch{Key: api.Id{7}, Note: "no", Ops: []api.Op{create}})
	if all != "\x00\x07"+strings.Repeat("\x00", 31)+"\x02no\x01\x01\x01a\x00\x00\x00\x00" {
		t.Errorf("%q", all)
	}
}

// P15.1. A sum hangs on the body alone, an id on the signature, too.
func TestSumAndSignature(t *testing.T) {
	p := good()[1]
	q := patch.Clone(p)
	q.Sign.Way[1][31] ^= 1
	a, _ := patch.Sum(p)
	b, _ := patch.Sum(q)
	c, _ := patch.Id(p)
	d, _ := patch.Id(q)
	if a != b || c == d {
		t.Errorf("%x, %x; %x, %x", a, b, c, d)
	}
}

// P15.1. Signatures that can't be written: there are a body and a sum, but no bytes and no id.
func TestNotWritable(t *testing.T) {
	for _, x := range []struct {
		leaf, shown, hidden, way int
		want                     api.Errno
	}{
		{0, 256, 256, 10, api.OK}, {0, 0, 0, 0, api.OK}, {1 << 62, 0, 0, 0, api.OK}, {1<<62 - 1, 1, 1, 1, api.OK}, {1 << 20, 256, 0, 10, api.OK},
		{0, 257, 0, 0, api.ErrForm}, {0, 0, 257, 0, api.ErrForm}, {0, 0, 0, 11, api.ErrForm}, {-1, 0, 0, 0, api.ErrForm}, {1<<62 + 1, 0, 0, 0, api.ErrForm}, {-1 << 63, 0, 0, 0, api.ErrForm}, {1<<63 - 1, 8, 8, 1, api.ErrForm}, {0, 300, 290, 20, api.ErrForm}, {5, 257, 256, 10, api.ErrForm}, {5, 256, 257, 10, api.ErrForm}, {5, 256, 256, 11, api.ErrForm},
	} {
		p := good()[1]
		p.Sign = signature(x.leaf, x.shown, x.hidden, x.way)
		all, e := patch.Bytes(p)
		own, f := patch.Id(p)
		if e != x.want || f != x.want || (all == "") != (e != api.OK) || (own == api.Id{}) != (e != api.OK) {
			t.Errorf("%v: %.99q, %d; %x, %d", x, all, e, own, f)
		}
		if back, f := patch.Parse(all); e == api.OK && (f != api.OK || !same(back, p)) {
			t.Errorf("%v: %s, %d", x, brief(back), f)
		}
		body, e := patch.Body(p)
		if sum, f := patch.Sum(p); body != bodyOf(p) || e != api.OK || sum != sumOf("patch", body) || f != api.OK {
			t.Errorf("%v: %d, %d", x, e, f)
		}
	}
}

// same tells whether two patches are one, nil and empty rows being one.
func same(a, b api.Patch) bool {
	for _, p := range []*api.Patch{&a, &b} {
		p.Ops = append([]api.Op{}, p.Ops...)
		for i, o := range p.Ops {
			p.Ops[i].Old, p.Ops[i].New = append([]string{}, o.Old...), append([]string{}, o.New...)
		}
		for _, l := range []*[]api.Id{&p.Deps, &p.Sign.Shown, &p.Sign.Hidden, &p.Sign.Way} {
			*l = append([]api.Id{}, *l...)
		}
	}
	return reflect.DeepEqual(a, b)
}

// P15.2. Parse of Bytes is the patch.
func TestParse(t *testing.T) {
	for _, p := range good() {
		all, _ := patch.Bytes(p)
		if q, e := patch.Parse(all); e != api.OK || !same(p, q) {
			t.Errorf("%s: %s, %d", brief(p), brief(q), e)
		}
	}
}

// fails looks whether bytes are no patch, by an error.
func fails(t *testing.T, s string, want api.Errno) {
	t.Helper()
	if p, e := patch.Parse(s); e != want || !reflect.DeepEqual(p, api.Patch{}) {
		t.Errorf("%.200q: %s, %d, not %d", s, brief(p), e, want)
	}
}

// P15.1. What is wrong is told as it is read, from the front on.
func TestParseWrong(t *testing.T) {
	key := strings.Repeat("k", 32)
	none := "\x00" + key + "\x00"
	body := none + "\x01\x01\x01a"
	for _, x := range []struct {
		s    string
		want api.Errno
	}{
		{"", api.ErrShort}, {"\x80\x00", api.ErrForm}, {number(17), api.ErrLong}, {number(17) + "\x80\x00", api.ErrLong}, {number(1 << 62), api.ErrLong}, {row(ids(17)) + key, api.ErrLong}, {row(ids(16)), api.ErrShort}, {"\x01" + key[1:], api.ErrShort}, {"\x00" + key[1:], api.ErrShort},
		{"\x00" + key, api.ErrShort}, {"\x00" + key + number(401), api.ErrLong}, {"\x00" + key + text(note(401)), api.ErrLong}, {"\x00" + key + number(400) + "n", api.ErrShort}, {"\x00" + key + "\x81\x00", api.ErrForm},
		{none, api.ErrShort}, {none + "\x80\x00", api.ErrForm}, {none + "\x00", api.ErrForm}, {none + "\x00\x00\x00\x00\x00", api.ErrForm}, {none + "\x21", api.ErrLong}, {none + "\x21\x09", api.ErrLong}, {none + number(1<<62), api.ErrLong}, {none + "\x21" + strings.Repeat("\x01\x01a", 33) + "\x00\x00\x00\x00", api.ErrLong},
		{none + "\x01", api.ErrShort}, {none + "\x01\x09", api.ErrForm}, {none + "\x01\x00", api.ErrForm}, {none + "\x01\x01\x01/", api.ErrForm}, {none + "\x01\x01" + number(201), api.ErrLong}, {none + "\x02\x01\x01a", api.ErrShort}, {none + "\x02\x01\x01a\x07", api.ErrForm}, {none + "\x02\x01\x01/\x07", api.ErrForm}, {none + "\x01\x05\x00" + key + "\x09", api.ErrForm}, {none + "\x02\x01\x01/\x02\x01a" + number(1001), api.ErrForm}, {none + "\x01\x02\x01a" + number(1001), api.ErrLong}, {none + "\x01\x02\x01a\x01" + text(note(201)), api.ErrLong},
		{body, api.ErrShort}, {body + "\x80\x00", api.ErrForm}, {body + number(1<<62) + "\x00\x00", api.ErrShort}, {body + "\xff\xff\xff\xff\xff\xff\xff\xff\x40", api.ErrForm}, {body + "\x00" + number(257), api.ErrLong}, {body + "\x00\x00" + number(257), api.ErrLong}, {body + "\x00\x00\x00\x0b", api.ErrLong}, {body + "\x00\x00\x00\x0a", api.ErrShort}, {body + "\x00\x00\x01" + key[1:], api.ErrShort},
		{body + "\x00\x00\x00\x00\x00", api.ErrForm}, {body + "\x00\x00\x00\x00x", api.ErrForm}, {body + "\x00\x00\x00\x00", api.OK},
	} {
		if x.want != api.OK {
			fails(t, x.s, x.want)
		} else if p, e := patch.Parse(x.s); e != api.OK || !same(p, api.Patch{Key: api.Id([]byte(key)), Ops: []api.Op{create}}) {
			t.Errorf("%q: %s, %d", x.s, brief(p), e)
		}
	}
}

// P15.1. Deps that don't rise are told last of all, behind bytes that are left.
func TestParseOrder(t *testing.T) {
	for _, deps := range [][]api.Id{{{2}, {1}}, {{1}, {1}}, make([]api.Id, 16), append(ids(15), api.Id{})} {
		p := good()[1]
		p.Deps = deps
		all := bytesOf(p)
		fails(t, all, api.ErrOrder)
		fails(t, all+"\x00", api.ErrForm)
		fails(t, all[:len(all)-1], api.ErrShort)
	}
}

// greatest is a patch of just MaxBytes bytes.
func greatest(t *testing.T) api.Patch {
	t.Helper()
	wide := slices.Repeat([]string{strings.Repeat("x", 200)}, 1000)
	p := api.Patch{Ops: repeated(api.Op{Kind: 3, Path: "a", Old: wide, New: wide}, 10)}
	// Each of those lines takes 202 bytes; what they leave is the note's.
	p.Ops = append(p.Ops, api.Op{Kind: 3, Path: "a", New: wide[:(1<<22-len(bytesOf(p))-200)/202]})
	p.Note = note(1<<22 - len(bytesOf(p)) - 1)
	if len(bytesOf(p)) != 1<<22 || patch.Right(p) != api.OK {
		t.Fatal(len(bytesOf(p)), len(p.Note), patch.Right(p))
	}
	return p
}

// P15.1, P15.2. Bytes may be MaxBytes, but not one more, whatever they are.
func TestParseLong(t *testing.T) {
	p := greatest(t)
	all, e := patch.Bytes(p)
	if q, f := patch.Parse(all); e != api.OK || f != api.OK || !same(p, q) {
		t.Fatal(e, f)
	}
	fails(t, all+"\x00", api.ErrLong)
	fails(t, all[:len(all)-1], api.ErrShort)
	p.Note += "n"
	if all, e = patch.Bytes(p); e != api.OK || len(all) != 1<<22+1 {
		t.Fatal(len(all), e)
	}
	fails(t, all, api.ErrLong)
	fails(t, strings.Repeat("\x00", 1<<22+1), api.ErrLong)
	fails(t, strings.Repeat("\x00", 1<<22), api.ErrForm)
}

// once looks whether of bytes that are parsed just these are the Bytes, and tells whether they are.
func once(t *testing.T, s string) bool {
	t.Helper()
	p, e := patch.Parse(s)
	if e != api.OK {
		if !reflect.DeepEqual(p, api.Patch{}) {
			t.Fatalf("%.200q: %s beside %d", s, brief(p), e)
		}
		return false
	}
	if all, e := patch.Bytes(p); e != api.OK || all != s || patch.Right(p) != api.OK {
		t.Fatalf("%.200q: %s, whose bytes are %.200q, %d", s, brief(p), all, e)
	}
	return true
}

// small is a patch of few bytes, with something of each sort.
func small() string {
	p := api.Patch{Deps: ids(2), Note: "n", Ops: ops(), Sign: signature(130, 1, 1, 1)}
	return bytesOf(p)
}

// P15.1, P15.2. Bytes cut short, and with one byte changed, or put in, or left out.
func TestParseChanged(t *testing.T) {
	s := small()
	if !once(t, s) {
		t.Fatal("no patch")
	}
	parsed := 0
	for i := range len(s) {
		fails(t, s[:i], api.ErrShort)
		once(t, s[:i]+s[i+1:])
		for b := range 256 {
			if once(t, s[:i]+string([]byte{byte(b)})+s[i+1:]) {
				parsed++
			}
			once(t, s[:i]+string([]byte{byte(b)})+s[i:])
		}
	}
	if parsed < 1000 {
		t.Error(parsed)
	}
}

// FuzzParse looks at any bytes.
func FuzzParse(f *testing.F) {
	f.Add(small())
	f.Fuzz(func(t *testing.T, s string) { once(t, s) })
}

// with is a signer of a seed.
func with(t *testing.T, par api.Params, seed string, next int) *signer.Signer {
	t.Helper()
	s, e := signer.New(par, seed, next)
	if e != api.OK {
		t.Fatal(e)
	}
	return s
}

// P15.1, P15.3. What is made is as it was asked for, by the signer's key and next leaf, and verified.
func TestMake(t *testing.T) {
	for _, par := range []api.Params{{Bits: 8, Height: 3}, {Bits: 256, Height: 3}} {
		s := with(t, par, "seed", 0)
		for i, want := range good() {
			p, e := patch.Make(s, want.Deps, want.Note, want.Ops)
			if e != api.OK || patch.Verify(par, p) != api.OK || s.Next() != i+1 {
				t.Fatalf("%s: %d, %d, next %d", brief(want), e, patch.Verify(par, p), s.Next())
			}
			want.Key = s.Key()
			sum, _ := patch.Sum(want)
			if want.Sign, e = with(t, par, "seed", i).Sign(sum); e != api.OK || !same(p, want) {
				t.Fatalf("%s, not %s", brief(p), brief(want))
			}
			all, e := patch.Bytes(p)
			if q, f := patch.Parse(all); e != api.OK || f != api.OK || !same(p, q) || patch.Verify(par, q) != api.OK {
				t.Fatalf("%s: %s, %d, %d", brief(p), brief(q), e, f)
			}
		}
	}
}

// P15.1. Deps are sorted, and each is there once, ahead of their count.
func TestMakeDeps(t *testing.T) {
	par := api.Params{Bits: 8, Height: 3}
	s := with(t, par, "s", 0)
	down := ids(16)
	slices.Reverse(down)
	for i, l := range [][]api.Id{{{2}, {1}, {2}}, slices.Repeat(down, 20), {{}, {}}, {}, nil, {{31: 1}, {0: 1}}} {
		p, e := patch.Make(s, l, "", []api.Op{create})
		if e != api.OK || !slices.Equal(p.Deps, dense(l)) || patch.Verify(par, p) != api.OK || s.Next() != i+1 {
			t.Errorf("%v: %v, %d", l, p.Deps, e)
		}
	}
	if p, e := patch.Make(s, append(ids(17), ids(17)...), note(401), nil); e != api.ErrLong || !reflect.DeepEqual(p, api.Patch{}) || s.Next() != 6 {
		t.Errorf("%s, %d", brief(p), e)
	}
}

// P15.1. With an error no leaf is used; what isn't right is told ahead of what has no leaf left, and without a signer there is ErrArg alone.
func TestMakeWrong(t *testing.T) {
	par := api.Params{Bits: 8, Height: 1}
	s, spent := with(t, par, "s", 1), with(t, par, "s", 2)
	one := []api.Op{create}
	for _, x := range []struct {
		s    *signer.Signer
		deps []api.Id
		note string
		ops  []api.Op
		want api.Errno
	}{
		{nil, nil, "", one, api.ErrArg}, {nil, ids(17), note(401), nil, api.ErrArg}, {nil, ids(2), "n", []api.Op{{Kind: 1}}, api.ErrArg},
		{s, ids(17), "", one, api.ErrLong}, {s, nil, note(401), one, api.ErrLong}, {s, nil, note(401), nil, api.ErrLong}, {s, ids(17), "", nil, api.ErrLong}, {s, nil, "", nil, api.ErrArg}, {s, ids(16), note(400), []api.Op{}, api.ErrArg}, {s, nil, "", repeated(create, 33), api.ErrLong},
		{s, nil, "", []api.Op{create, {}}, api.ErrArg}, {s, nil, "", []api.Op{create, {Kind: 1}}, api.ErrForm}, {s, nil, "", []api.Op{{Kind: 5, Depth: 9}, {}}, api.ErrRange},
		{spent, ids(17), "", one, api.ErrLong}, {spent, nil, "", nil, api.ErrArg}, {spent, nil, "", []api.Op{{Kind: 1}}, api.ErrForm}, {spent, ids(3), "n", one, api.ErrSpent}, {spent, nil, "", one, api.ErrSpent},
	} {
		p, e := patch.Make(x.s, x.deps, x.note, x.ops)
		if e != x.want || !reflect.DeepEqual(p, api.Patch{}) || s.Next() != 1 || spent.Next() != 2 {
			t.Errorf("%d, %.20q, %s: %s, %d, not %d", len(x.deps), x.note, brief(x.ops), brief(p), e, x.want)
		}
	}
	if p, e := patch.Make(s, nil, "", one); e != api.OK || p.Sign.Leaf != 1 || s.Left() != 0 {
		t.Errorf("%s, %d", brief(p), e)
	}
	if p, e := patch.Make(s, nil, "", one); e != api.ErrSpent || !reflect.DeepEqual(p, api.Patch{}) {
		t.Errorf("%s, %d", brief(p), e)
	}
}

// changes are one thing changed of a patch that has something of each sort, each: of its body, and of its signature.
func changes() (body, sign []func(p *api.Patch)) {
	body = []func(p *api.Patch){
		func(p *api.Patch) { p.Deps = p.Deps[1:] }, func(p *api.Patch) { p.Deps = nil }, func(p *api.Patch) { p.Deps[1][31] ^= 1 }, func(p *api.Patch) { p.Deps = append(p.Deps, api.Id{0: 255}) },
		func(p *api.Patch) { p.Note += "n" }, func(p *api.Patch) { p.Note = "" }, func(p *api.Patch) { p.Note = "N" + p.Note[1:] },
		func(p *api.Patch) { p.Ops = p.Ops[1:] }, func(p *api.Patch) { p.Ops = append(p.Ops, create) }, func(p *api.Patch) { p.Ops[0], p.Ops[1] = p.Ops[1], p.Ops[0] }, func(p *api.Patch) { p.Ops[2].At++ }, func(p *api.Patch) { p.Ops[2].New[0] = "" }, func(p *api.Patch) { p.Ops[2].Old = nil }, func(p *api.Patch) { p.Ops[3].To = "d" }, func(p *api.Patch) { p.Ops[4].Depth-- }, func(p *api.Patch) { p.Ops[6].Key[31] = 1 },
		func(p *api.Patch) { p.Key[31] ^= 1 }, func(p *api.Patch) { p.Key[0] ^= 128 },
	}
	sign = []func(p *api.Patch){
		func(p *api.Patch) { p.Sign.Leaf ^= 1 }, func(p *api.Patch) { p.Sign.Shown[7][31] ^= 1 }, func(p *api.Patch) { p.Sign.Hidden[0][0] ^= 1 }, func(p *api.Patch) { p.Sign.Way[0][5] ^= 4 }, func(p *api.Patch) { p.Sign.Way[1][31] ^= 1 }, func(p *api.Patch) { p.Sign.Shown, p.Sign.Hidden = p.Sign.Hidden, p.Sign.Shown },
	}
	return body, sign
}

// shapes are changes by which a signature doesn't fit its params any more.
func shapes() []func(p *api.Patch) {
	return []func(p *api.Patch){
		func(p *api.Patch) { p.Sign = api.Signature{} }, func(p *api.Patch) { p.Sign.Leaf = 4 }, func(p *api.Patch) { p.Sign.Leaf = -1 }, func(p *api.Patch) { p.Sign.Shown = p.Sign.Shown[1:] }, func(p *api.Patch) { p.Sign.Hidden = append(p.Sign.Hidden, api.Id{}) }, func(p *api.Patch) { p.Sign.Way = p.Sign.Way[:1] }, func(p *api.Patch) { p.Sign.Way = append(p.Sign.Way, api.Id{}) }, func(p *api.Patch) { p.Sign.Shown = nil }, func(p *api.Patch) { p.Sign.Way = nil },
	}
}

// made is a patch with something of each sort, and its params; enough bits are signed that no change passes by chance.
func made(t *testing.T) (api.Params, api.Patch) {
	t.Helper()
	par := api.Params{Bits: 128, Height: 2}
	p, e := patch.Make(with(t, par, "seed", 1), ids(2), "note", ops())
	if e != api.OK {
		t.Fatal(e)
	}
	return par, p
}

// P15.1, P15.3. What is made is verified, but nothing else under its key, and under no other one.
func TestVerify(t *testing.T) {
	par, p := made(t)
	body, sign := changes()
	looks := func(changed []func(p *api.Patch), want api.Errno) {
		for i, change := range changed {
			q := patch.Clone(p)
			change(&q)
			if e := patch.Verify(par, q); e != want {
				t.Errorf("change %d: %d, not %d", i, e, want)
			}
		}
	}
	if e := patch.Verify(par, p); e != api.OK {
		t.Fatal(e)
	}
	looks(body, api.ErrSign)
	looks(sign, api.ErrSign)
	looks(shapes(), api.ErrForm)
	for _, wrong := range []api.Params{{}, {Bits: 120, Height: 2}, {Bits: 136, Height: 2}, {Bits: 128, Height: 1}, {Bits: 128, Height: 3}, {Bits: 127, Height: 2}, {Bits: 128, Height: -1}} {
		if e := patch.Verify(wrong, p); e != api.ErrForm {
			t.Errorf("%v: %d", wrong, e)
		}
	}
	q := patch.Clone(p)
	q.Key = with(t, par, "other", 0).Key()
	if e := patch.Verify(par, q); e != api.ErrSign {
		t.Error(e)
	}
	q.Ops, q.Sign = nil, api.Signature{}
	if e := patch.Verify(par, q); e != api.ErrArg {
		t.Error(e)
	}
}

// P15.1. Of patches right or not: of one thing changed, and of all pairs of some.
func TestSame(t *testing.T) {
	_, p := made(t)
	body, sign := changes()
	l := append(good(), p, api.Patch{}, api.Patch{Deps: []api.Id{}, Ops: []api.Op{}, Sign: api.Signature{Shown: []api.Id{}, Hidden: []api.Id{}, Way: []api.Id{}}}, api.Patch{Ops: []api.Op{{}}}, api.Patch{Ops: []api.Op{{Old: []string{}, New: []string{}}}}, api.Patch{Deps: make([]api.Id, 3)}, api.Patch{Deps: []api.Id{{2}, {1}}}, api.Patch{Deps: []api.Id{{1}, {2}}})
	for _, change := range slices.Concat(body, sign, shapes()) {
		q := patch.Clone(p)
		change(&q)
		if patch.Same(p, q) || patch.Same(q, p) {
			t.Errorf("%s is %s", brief(p), brief(q))
		}
		l = append(l, q)
	}
	for _, a := range l {
		for _, b := range l {
			if patch.Same(a, b) != same(a, b) {
				t.Errorf("%s, %s: %v", brief(a), brief(b), patch.Same(a, b))
			}
		}
		if !patch.Same(a, patch.Clone(a)) || !same(a, patch.Clone(a)) {
			t.Errorf("%s isn't its clone", brief(a))
		}
	}
}

// spoil changes all of a patch's rows, their spare room too.
func spoil(p api.Patch) {
	for _, o := range p.Ops {
		for _, l := range [][]string{o.Old, o.New} {
			for i := range l[:cap(l)] {
				l[:cap(l)][i] = "spoilt"
			}
		}
	}
	clear(p.Ops[:cap(p.Ops)])
	for _, l := range [][]api.Id{p.Deps, p.Sign.Shown, p.Sign.Hidden, p.Sign.Way} {
		for i := range l[:cap(l)] {
			l[:cap(l)][i] = api.Id{9, 9, 9}
		}
	}
}

// P15.1. What is told is memory of its own: of a clone, of what is made and of what is parsed.
func TestMemory(t *testing.T) {
	par, p := made(t)
	all, _ := patch.Bytes(p)
	again := func() api.Patch { q, _ := patch.Parse(all); return q }
	deps := []api.Id{{3}, {1}, {2}, {4}}
	lines := []string{"a", "b", "c"}
	rows := append(make([]api.Op, 0, 4), api.Op{Kind: 3, Path: "a", Old: lines[:1], New: lines[:2]}, api.Op{Kind: 2, Path: "a", Old: lines[:2]})
	s := with(t, par, "s", 0)
	first, _ := patch.Make(s, deps[:3], "n", rows)
	second, _ := patch.Make(s, deps[:3], "n", rows)
	if !slices.Equal(deps, []api.Id{{3}, {1}, {2}, {4}}) || strings.Join(lines, "") != "abc" || !op.Same(rows[:4][2], api.Op{}) || rows[0].Kind != 3 {
		t.Fatal(deps, lines, rows)
	}
	clone, want := patch.Clone(second), patch.Clone(second)
	spoil(first)
	spoil(api.Patch{Deps: deps, Ops: rows})
	if !same(second, want) || patch.Verify(par, second) != api.OK {
		t.Fatalf("%s, not %s", brief(second), brief(want))
	}
	if third, e := patch.Make(s, nil, "", []api.Op{create}); e != api.OK || patch.Verify(par, third) != api.OK {
		t.Error(e)
	}
	spoil(second)
	if !same(clone, want) || patch.Verify(par, clone) != api.OK {
		t.Fatalf("%s, not %s", brief(clone), brief(want))
	}
	x, y := again(), again()
	spoil(x)
	if !same(y, p) || !same(again(), p) || patch.Verify(par, y) != api.OK {
		t.Fatalf("%s, not %s", brief(y), brief(p))
	}
}

// P15.1. No call changes a patch that is handed in.
func TestHandedIn(t *testing.T) {
	par, p := made(t)
	kept := patch.Clone(p)
	patch.Right(p)
	patch.Body(p)
	patch.Sum(p)
	patch.Bytes(p)
	patch.Id(p)
	patch.Verify(par, p)
	patch.Same(p, p)
	spoil(patch.Clone(p))
	if !same(p, kept) {
		t.Errorf("%s, not %s", brief(p), brief(kept))
	}
}
