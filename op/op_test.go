package op_test

import (
	"encoding/binary"
	"maps"
	"math"
	"reflect"
	"regexp"
	"slices"
	"strings"
	"testing"

	"quitclaim/api"
	"quitclaim/hunk"
	"quitclaim/op"
	"quitclaim/pack"
)

// key is one that isn't zero by its last byte alone.
var key = api.Id{31: 9}

// full and long are right lines, as many and as long as may be.
var (
	full = make([]string, 1000)
	long = []string{strings.Repeat("x", 200)}
)

// deep is a path of as many parts and bytes as may be.
var deep = strings.Repeat(strings.Repeat("b", 11)+"/", 15) + strings.Repeat("c", 20)

// each goes through operations of all kinds and none, with fields of all sorts.
func each(yield func(o api.Op) bool) {
	lists := [][]string{nil, {}, {"a"}, {"", "b\x00"}, {"a\n"}, full, make([]string, 1001), long, {strings.Repeat("x", 201)}}
	for _, kind := range []int{1, 2, 3, 4, 5, 6, 0, 7, -1, 257, math.MaxInt, math.MinInt} {
		for _, p := range []string{"a", "b/c.d", deep, "", "A", "a/", deep + "c", "/", ".."} {
			for _, to := range []string{"", "a", "b/c.d", "..", deep} {
				for _, at := range []int{0, 1, 1000, 1001, -1} {
					for _, depth := range []int{0, 1, 8, 9, -1} {
						for i, l := range lists {
							for _, o := range []api.Op{
								{At: at, Depth: depth, Old: l}, {At: at, Depth: depth, New: l}, {At: at, Depth: depth, Old: l, New: lists[(i+3)%len(lists)], Key: key}, {At: at, Depth: depth, Old: l[:0], Key: key},
							} {
								o.Kind, o.Path, o.To = kind, p, to
								if !yield(o) {
									return
								}
							}
						}
					}
				}
			}
		}
	}
}

// sorts are what each told of operations that were gone through.
func sorts(t *testing.T, seen map[api.Errno]int) {
	t.Helper()
	for _, e := range []api.Errno{api.OK, api.ErrArg, api.ErrForm, api.ErrRange} {
		if seen[e] == 0 {
			t.Errorf("error %d was never told", e)
		}
	}
}

// partsOf matches a path, its parts and its length left out.
var partsOf = regexp.MustCompile(`^[a-z0-9._-]+(/[a-z0-9._-]+)*$`)

// pathOf tells whether a text is a path, worked out by the words.
func pathOf(s string) bool {
	l := strings.Split(s, "/")
	return len(s) <= 200 && len(l) <= 16 && partsOf.MatchString(s) && !slices.Contains(l, ".") && !slices.Contains(l, "..")
}

// linesOf tells whether lines are right, worked out by the words.
func linesOf(l []string) bool {
	for _, s := range l {
		if len(s) > 200 || strings.Contains(s, "\n") {
			return false
		}
	}
	return len(l) <= 1000
}

// rightOf tells what is wrong with an operation, worked out by the words, kind by kind.
func rightOf(o api.Op) api.Errno {
	none := api.Op{}
	rest := o
	rest.Kind, rest.Path = 0, ""
	right := pathOf(o.Path)
	depth := 0
	switch o.Kind {
	case 1:
	case 2:
		rest.Old = nil
		right = right && linesOf(o.Old)
	case 3:
		rest.At, rest.Old, rest.New = 0, nil, nil
		right = right && o.At >= 0 && o.At <= 1000 && linesOf(o.Old) && linesOf(o.New) && len(o.Old)+len(o.New) > 0
	case 4:
		rest.To = ""
		right = right && pathOf(o.To) && o.To != o.Path
	case 5, 6:
		rest.Key = api.Id{}
		if o.Kind == 5 {
			rest.Depth, depth = 0, o.Depth
		}
		right = right || o.Path == ""
	default:
		return api.ErrArg
	}
	rest.Old, rest.New = append([]string(nil), rest.Old...), append([]string(nil), rest.New...)
	if !right || !reflect.DeepEqual(rest, none) {
		return api.ErrForm
	}
	if depth < 0 || depth > 8 {
		return api.ErrRange
	}
	return api.OK
}

// P13.1.
func TestRight(t *testing.T) {
	seen := map[api.Errno]int{}
	for o := range each {
		want := rightOf(o)
		if e := op.Right(o); e != want {
			t.Fatalf("%.200v: %d, not %d", o, e, want)
		}
		seen[want]++
	}
	sorts(t, seen)
}

// P13.1. One right operation of each kind, with one thing beside that its kind doesn't have.
func TestRightAlone(t *testing.T) {
	beside := map[string]func(o *api.Op){
		"to": func(o *api.Op) { o.To = "z" }, "at": func(o *api.Op) { o.At = 1 }, "old": func(o *api.Op) { o.Old = []string{""} }, "new": func(o *api.Op) { o.New = []string{""} },
		"key": func(o *api.Op) { o.Key = key }, "depth": func(o *api.Op) { o.Depth = 1 }, "minus": func(o *api.Op) { o.At = -1 }, "shallow": func(o *api.Op) { o.Depth = -1 }, "nine": func(o *api.Op) { o.Depth = 9 },
	}
	has := map[int]string{1: "", 2: "old", 3: "old new at", 4: "to", 5: "key depth shallow nine", 6: "key"}
	for _, o := range right() {
		for name, spoils := range beside {
			wrong := op.Clone(o)
			spoils(&wrong)
			want := api.ErrForm
			if slices.Contains(strings.Fields(has[o.Kind]), name) {
				want = api.OK
				if name == "shallow" || name == "nine" {
					want = api.ErrRange
				}
			}
			if e := op.Right(wrong); e != want {
				t.Errorf("%.99v with %s: %d", o, name, e)
			}
		}
	}
}

// right are operations of each kind that are right, the edges among them.
func right() []api.Op {
	l := []api.Op{
		{Kind: 1, Path: "a"}, {Kind: 1, Path: deep}, {Kind: 2, Path: "a"}, {Kind: 2, Path: "a/b", Old: []string{"x", ""}}, {Kind: 2, Path: deep, Old: full}, {Kind: 2, Path: "a", Old: long},
		{Kind: 3, Path: "a", Old: []string{"x"}}, {Kind: 3, Path: "a", At: 1, New: []string{"x"}}, {Kind: 3, Path: "a", At: 127, Old: []string{"\xff"}, New: []string{"y", "z"}}, {Kind: 3, Path: deep, At: 1000, Old: full, New: full}, {Kind: 3, Path: "a", At: 128, New: long},
		{Kind: 4, Path: "a", To: "b"}, {Kind: 4, Path: "a", To: "a/b"}, {Kind: 4, Path: deep, To: "a"}, {Kind: 4, Path: "a", To: deep},
	}
	for _, p := range []string{"", "a", "a/b", deep} {
		for _, k := range []api.Id{{}, key, {0: 1}} {
			l = append(l, api.Op{Kind: 5, Path: p, Key: k}, api.Op{Kind: 5, Path: p, Key: k, Depth: 1}, api.Op{Kind: 5, Path: p, Key: k, Depth: 8}, api.Op{Kind: 6, Path: p, Key: k})
		}
	}
	return l
}

// P13.1.
func TestRightOnes(t *testing.T) {
	for _, o := range right() {
		if e := op.Right(o); e != api.OK || rightOf(o) != api.OK {
			t.Errorf("%.99v: %d", o, e)
		}
	}
}

// P13.1. ErrArg is ahead of ErrForm, this ahead of ErrRange.
func TestRightOrder(t *testing.T) {
	for _, x := range []struct {
		o    api.Op
		want api.Errno
	}{
		{api.Op{}, api.ErrArg}, {api.Op{Kind: 7, Path: "/", Depth: 9}, api.ErrArg}, {api.Op{Kind: -5, Path: "a"}, api.ErrArg}, {api.Op{Kind: 256 + 1, Path: "a"}, api.ErrArg}, {api.Op{Kind: 1 << 32, Path: "a"}, api.ErrArg},
		{api.Op{Kind: 5, Path: "/", Depth: 9}, api.ErrForm}, {api.Op{Kind: 5, Path: "a", At: 1, Depth: 9}, api.ErrForm}, {api.Op{Kind: 5, Path: "a", To: "b", Depth: -1}, api.ErrForm},
		{api.Op{Kind: 5, Path: "a", Depth: 9}, api.ErrRange}, {api.Op{Kind: 5, Depth: -1}, api.ErrRange}, {api.Op{Kind: 5, Depth: math.MaxInt}, api.ErrRange}, {api.Op{Kind: 5, Depth: math.MinInt}, api.ErrRange},
		{api.Op{Kind: 6, Depth: 9}, api.ErrForm}, {api.Op{Kind: 6, Depth: 1}, api.ErrForm}, {api.Op{Kind: 1, Path: "a", Depth: 9}, api.ErrForm}, {api.Op{Kind: 1}, api.ErrForm}, {api.Op{Kind: 4, Path: "a"}, api.ErrForm}, {api.Op{Kind: 4, To: "a"}, api.ErrForm}, {api.Op{Kind: 4, Path: deep, To: deep}, api.ErrForm},
	} {
		if e := op.Right(x.o); e != x.want {
			t.Errorf("%v: %d, not %d", x.o, e, x.want)
		}
	}
}

// P13.1. Of operations that aren't right, too.
func TestPolicyAndHunk(t *testing.T) {
	for o := range each {
		if op.Policy(o) != (o.Kind == 5 || o.Kind == 6) {
			t.Fatalf("%.200v is policy: %v", o, op.Policy(o))
		}
		if h := op.Hunk(o); h.At != o.At || !slices.Equal(h.Old, o.Old) || !slices.Equal(h.New, o.New) {
			t.Fatalf("%.200v: %.200v", o, h)
		}
	}
}

// P13.1.
func TestPaths(t *testing.T) {
	for o := range each {
		var want []string
		if rightOf(o) == api.OK {
			want = append(want, o.Path)
			if o.Kind == 4 {
				want = append(want, o.To)
			}
		}
		if l := op.Paths(o); !slices.Equal(l, want) {
			t.Fatalf("%.200v: %q", o, l)
		}
	}
	if l := op.Paths(api.Op{Kind: 6, Key: key}); len(l) != 1 || l[0] != "" {
		t.Errorf("an empty prefix: %q", l)
	}
	if l := op.Paths(api.Op{Kind: 5, Path: "a", Depth: 9}); len(l) != 0 {
		t.Errorf("too deep: %q", l)
	}
}

// inverseOf is what undoes an operation, worked out by the words.
func inverseOf(o api.Op) ([]api.Op, api.Errno) {
	if e := rightOf(o); e != api.OK {
		return nil, e
	}
	switch {
	case o.Kind == 1:
		return []api.Op{{Kind: 2, Path: o.Path}}, api.OK
	case o.Kind == 2 && len(o.Old) == 0:
		return []api.Op{{Kind: 1, Path: o.Path}}, api.OK
	case o.Kind == 2:
		return []api.Op{{Kind: 1, Path: o.Path}, {Kind: 3, Path: o.Path, New: o.Old}}, api.OK
	case o.Kind == 3:
		return []api.Op{{Kind: 3, Path: o.Path, At: o.At, Old: o.New, New: o.Old}}, api.OK
	case o.Kind == 4:
		return []api.Op{{Kind: 4, Path: o.To, To: o.Path}}, api.OK
	}
	return nil, api.ErrNone
}

// P13.1.
func TestInverse(t *testing.T) {
	seen := map[api.Errno]int{}
	looks := func(o api.Op) {
		want, wrong := inverseOf(o)
		l, e := op.Inverse(o)
		if e != wrong || !slices.EqualFunc(l, want, equal) {
			t.Fatalf("%.200v: %.200v, %d", o, l, e)
		}
		for _, back := range l {
			if op.Right(back) != api.OK {
				t.Fatalf("%.200v: %.200v isn't right", o, back)
			}
		}
		seen[e]++
	}
	for o := range each {
		looks(o)
	}
	for _, o := range right() {
		looks(o)
	}
	if sorts(t, seen); seen[api.ErrNone] == 0 {
		t.Error("no policy")
	}
}

// files are what operations are applied to.
type files map[string][]string

// does applies an operation that fits.
func (f files) does(t *testing.T, o api.Op) {
	t.Helper()
	l, there := f[o.Path]
	if there == (o.Kind == api.Create) || o.Kind == api.Remove && !slices.Equal(l, o.Old) {
		t.Fatalf("%v doesn't fit %v", o, f)
	}
	switch o.Kind {
	case api.Create:
		f[o.Path] = nil
	case api.Remove:
		delete(f, o.Path)
	case api.Edit:
		m, e := hunk.Apply(l, op.Hunk(o))
		if e != api.OK {
			t.Fatalf("%v doesn't fit %v", o, f)
		}
		f[o.Path] = m
	case api.Move:
		delete(f, o.Path)
		f[o.To] = l
	}
}

// P13.1. It undoes.
func TestInverseUndoes(t *testing.T) {
	f := files{"a": {"x", "y", "z"}, "b": nil}
	for _, o := range []api.Op{
		{Kind: 1, Path: "c"}, {Kind: 2, Path: "a", Old: []string{"x", "y", "z"}}, {Kind: 2, Path: "b"}, {Kind: 3, Path: "a", At: 1, Old: []string{"y"}, New: []string{"u", "v"}}, {Kind: 3, Path: "a", At: 3, New: []string{"u"}}, {Kind: 3, Path: "a", Old: []string{"x", "y", "z"}}, {Kind: 4, Path: "a", To: "c"},
	} {
		l, e := op.Inverse(o)
		if e != api.OK {
			t.Fatalf("%v: %d", o, e)
		}
		g := maps.Clone(f)
		g.does(t, o)
		if maps.EqualFunc(f, g, slices.Equal) {
			t.Fatalf("%v does nothing", o)
		}
		for _, back := range l {
			g.does(t, back)
		}
		if !maps.EqualFunc(f, g, slices.Equal) {
			t.Errorf("%v undone by %v: %v", o, l, g)
		}
	}
}

// number is a number, written.
func number(v int) string { return string(binary.AppendUvarint(nil, uint64(v))) }

// text is a text, written.
func text(s string) string { return number(len(s)) + s }

// texts is a row of texts, written.
func texts(l []string) string {
	var b strings.Builder
	b.WriteString(number(len(l)))
	for _, s := range l {
		b.WriteString(text(s))
	}
	return b.String()
}

// bytesOf is an operation as bytes, worked out by the words.
func bytesOf(o api.Op) string {
	s := string([]byte{byte(o.Kind)}) + text(o.Path)
	switch o.Kind {
	case 2:
		return s + texts(o.Old)
	case 3:
		return s + number(o.At) + texts(o.Old) + texts(o.New)
	case 4:
		return s + text(o.To)
	case 5:
		return s + string(o.Key[:]) + number(o.Depth)
	case 6:
		return s + string(o.Key[:])
	}
	return s
}

// P13.1. What isn't right is not written.
func TestPut(t *testing.T) {
	var w pack.Writer
	done := 0
	for o := range each {
		want := rightOf(o)
		if e := op.Put(&w, o); e != want {
			t.Fatalf("%.200v: %d, not %d", o, e, want)
		}
		if want != api.OK {
			continue
		}
		s := w.String()
		if s[done:] != bytesOf(o) {
			t.Fatalf("%.200v: %.99q, not %.99q", o, s[done:], bytesOf(o))
		}
		if done = len(s); done > 1<<16 {
			w, done = pack.Writer{}, 0
		}
	}
	w = pack.Writer{}
	w.Byte(7)
	for _, o := range []api.Op{{}, {Kind: 1}, {Kind: 5, Depth: 9}, {Kind: 3, Path: "a"}, {Kind: 6, Depth: 1}} {
		if e := op.Put(&w, o); e == api.OK || w.String() != "\x07" {
			t.Errorf("%v: %d, %q", o, e, w.String())
		}
	}
}

// P13.2. What is put is got, one behind the other, whatever stands around it.
func TestPutAndGet(t *testing.T) {
	var w pack.Writer
	w.Byte(200)
	for _, o := range right() {
		one := pack.Writer{}
		if e := op.Put(&one, o); e != api.OK || one.String() != bytesOf(o) {
			t.Fatalf("%.99v: %.99q, %d", o, one.String(), e)
		}
		r := pack.New(one.String())
		if got := op.Get(r); !equal(got, o) || r.End() != api.OK {
			t.Fatalf("%.99v: %.99v, %d", o, got, r.End())
		}
		op.Put(&w, o)
	}
	w.Byte(201)
	r := pack.New(w.String())
	r.Byte()
	for _, o := range right() {
		if got := op.Get(r); !equal(got, o) || r.Err() != api.OK {
			t.Fatalf("%.99v: %.99v, %d", o, got, r.Err())
		}
	}
	if r.Byte() != 201 || r.End() != api.OK {
		t.Error(r.Err())
	}
}

// fails looks whether bytes aren't an operation, by an error at a place.
func fails(t *testing.T, s string, e api.Errno, place int) {
	t.Helper()
	r := pack.New("\x01" + s)
	r.Byte()
	o := op.Get(r)
	if !reflect.DeepEqual(o, api.Op{}) || r.Err() != e || r.Place() != 1+place || r.End() != e {
		t.Errorf("%.99q: %.99v, %d at %d, not %d at %d", s, o, r.Err(), r.Place()-1, e, place)
	}
	if o = op.Get(r); !reflect.DeepEqual(o, api.Op{}) || r.Err() != e || r.Place() != 1+place {
		t.Errorf("%.99q, once more: %.99v, %d at %d", s, o, r.Err(), r.Place()-1)
	}
}

// P13.1. A Kind that is none is told ahead of the Path, whatever this is.
func TestGetKind(t *testing.T) {
	for kind := range 256 {
		if kind >= 1 && kind <= 6 {
			continue
		}
		for _, rest := range []string{"", "\x01a", "\x80\x00", "\x01", "\x01/", "\xff\xff", "\x01a" + strings.Repeat("\x00", 40)} {
			fails(t, string([]byte{byte(kind)})+rest, api.ErrForm, 1)
		}
	}
	fails(t, "", api.ErrShort, 0)
}

// P13.1. Whatever is beyond what the reader may read is told where it stands.
func TestGetLists(t *testing.T) {
	many, wide := number(1001), text(strings.Repeat("x", 201))
	for kind := 1; kind <= 6; kind++ {
		k := string([]byte{byte(kind)})
		fails(t, k, api.ErrShort, 1)
		fails(t, k+"\x80\x00", api.ErrForm, 1)
		fails(t, k+text(strings.Repeat("a", 201)), api.ErrLong, 1)
		fails(t, k+number(201), api.ErrLong, 1)
		fails(t, k+number(200)+"a", api.ErrShort, 1)
	}
	fails(t, "\x02\x01a", api.ErrShort, 3)
	fails(t, "\x02\x01a"+many, api.ErrLong, 3)
	fails(t, "\x02\x01a\x02\x00"+wide, api.ErrLong, 3)
	fails(t, "\x02\x01/"+many, api.ErrLong, 3)
	fails(t, "\x03\x01a", api.ErrShort, 3)
	fails(t, "\x03\x01a\x80\x00", api.ErrForm, 3)
	fails(t, "\x03\x01a\x05"+many, api.ErrLong, 4)
	fails(t, "\x03\x01a\x05\x01"+wide, api.ErrLong, 4)
	fails(t, "\x03\x01a\x05\x00"+many, api.ErrLong, 5)
	fails(t, "\x03\x01a\x05\x00\x01"+wide, api.ErrLong, 5)
	fails(t, "\x03\x01a\x05\x00", api.ErrShort, 5)
	fails(t, "\x04\x01a"+number(201), api.ErrLong, 3)
	fails(t, "\x04\x01a", api.ErrShort, 3)
	fails(t, "\x05\x01a"+strings.Repeat("k", 31), api.ErrShort, 3)
	fails(t, "\x05\x01a"+strings.Repeat("k", 32), api.ErrShort, 35)
	fails(t, "\x05\x01a"+strings.Repeat("k", 32)+"\x80\x00", api.ErrForm, 35)
	fails(t, "\x06\x01a"+strings.Repeat("k", 31), api.ErrShort, 3)
}

// P13.1. What was read, but isn't right, is ErrForm behind its last byte.
func TestGetWrong(t *testing.T) {
	k := strings.Repeat("k", 32)
	for _, s := range []string{
		"\x01\x00", "\x01\x01/", "\x01\x01A", "\x01" + text(strings.Repeat("a/", 16)+"a"), "\x02\x00\x00", "\x02\x01.\x00", "\x02\x01a\x01\x01\n", "\x02\x01a\x02\x00\x03a\nb",
		"\x03\x00\x00\x01\x00\x00", "\x03\x01a\x00\x00\x00", "\x03\x01a\x05\x00\x00", "\x03\x01a" + number(1001) + "\x01\x01x\x00", "\x03\x01a" + number(1<<62) + "\x01\x01x\x00", "\x03\x01a\x00\x01\x01\n\x00", "\x03\x01a\x00\x00\x01\x01\n",
		"\x04\x01a\x01a", "\x04\x00\x01a", "\x04\x01a\x00", "\x04\x01a\x02a/", "\x04\x02..\x01a",
		"\x05\x01/" + k + "\x00", "\x05\x01a" + k + "\x09", "\x05\x00" + k + "\x09", "\x05\x01a" + k + number(1<<62), "\x05\x01/" + k + "\x09", "\x06\x01/" + k, "\x06\x02a/" + k,
	} {
		fails(t, s, api.ErrForm, len(s))
		r := pack.New(s + "\x01")
		if o := op.Get(r); !reflect.DeepEqual(o, api.Op{}) || r.Err() != api.ErrForm || r.Place() != len(s) {
			t.Errorf("%q with a byte behind it: %v, %d at %d", s, o, r.Err(), r.Place())
		}
	}
}

// P13.1. Of a reader that had something wrong nothing is got, and its error stays.
func TestGetOfAWrongReader(t *testing.T) {
	for _, e := range []api.Errno{api.ErrShort, api.ErrForm, api.ErrLong, api.ErrSum} {
		r := pack.New("\x01\x01a")
		r.Fail(e)
		if o := op.Get(r); !reflect.DeepEqual(o, api.Op{}) || r.Err() != e || r.Place() != 0 {
			t.Errorf("%v, %d at %d", o, r.Err(), r.Place())
		}
	}
}

// P13.1, P13.2. Operations that are cut short, or have one byte changed: what is got has just these bytes.
func TestGetChanged(t *testing.T) {
	for _, o := range right() {
		s := bytesOf(o)
		if len(s) > 300 {
			continue
		}
		for cut := range len(s) {
			r := pack.New(s[:cut])
			if got := op.Get(r); !reflect.DeepEqual(got, api.Op{}) || r.Err() != api.ErrShort {
				t.Fatalf("%q cut to %d: %v, %d", s, cut, got, r.Err())
			}
		}
		for i := range len(s) {
			for _, b := range []byte{0, 1, 2, 3, 4, 5, 6, 8, 9, 10, 47, 97, 127, 128, 255, s[i] ^ 1, s[i] ^ 0x80} {
				once(t, s[:i]+string([]byte{b})+s[i+1:])
				once(t, s[:i]+string([]byte{b})+s[i:])
			}
		}
	}
}

// P13.2. All short bytes.
func TestGetShort(t *testing.T) {
	l := []string{""}
	got := 0
	for range 6 {
		var next []string
		for _, s := range l {
			for _, b := range []byte{0, 1, 2, 3, 4, 'a', 'b', 128} {
				next = append(next, s+string([]byte{b}))
			}
		}
		l = next
		for _, s := range l {
			if once(t, s) {
				got++
			}
		}
	}
	if got == 0 {
		t.Error("none is an operation")
	}
}

// once looks whether just these bytes are put of what is got of bytes, and tells whether anything is.
func once(t *testing.T, s string) bool {
	t.Helper()
	r := pack.New(s)
	o := op.Get(r)
	if r.Err() != api.OK {
		if !reflect.DeepEqual(o, api.Op{}) {
			t.Fatalf("%q: %v beside %d", s, o, r.Err())
		}
		return false
	}
	var w pack.Writer
	if e := op.Put(&w, o); e != api.OK || w.String() != s[:r.Place()] || rightOf(o) != api.OK {
		t.Fatalf("%q: %v, put as %q, %d", s, o, w.String(), e)
	}
	return true
}

// FuzzGet looks at any bytes.
func FuzzGet(f *testing.F) {
	for _, o := range right() {
		f.Add(bytesOf(o))
	}
	f.Fuzz(func(t *testing.T, s string) { once(t, s) })
}

// equal tells whether two operations are one, nil and empty rows being one.
func equal(a, b api.Op) bool {
	for _, o := range []*api.Op{&a, &b} {
		o.Old, o.New = append([]string{}, o.Old...), append([]string{}, o.New...)
	}
	return reflect.DeepEqual(a, b)
}

// P13.1. Of operations right or not: of one thing changed, and of all pairs of some.
func TestSame(t *testing.T) {
	o := api.Op{Kind: 9, Path: "p", To: "t", At: 3, Old: []string{"o", ""}, New: []string{"n"}, Key: key, Depth: -4}
	l := []api.Op{{}, o, {Old: []string{}, New: []string{}}, {Old: []string{""}}, {New: []string{""}}, {Old: []string{"a", "b"}}, {Old: []string{"b", "a"}}, {Old: []string{"ab"}}}
	for _, changes := range []func(o *api.Op){
		func(o *api.Op) { o.Kind++ }, func(o *api.Op) { o.Path += "p" }, func(o *api.Op) { o.To = "" }, func(o *api.Op) { o.At = -3 }, func(o *api.Op) { o.Old = []string{"o"} }, func(o *api.Op) { o.Old = nil }, func(o *api.Op) { o.New = []string{"m"} },
		func(o *api.Op) { o.Old, o.New = o.New, o.Old }, func(o *api.Op) { o.Key[31] ^= 1 }, func(o *api.Op) { o.Key[0] ^= 1 }, func(o *api.Op) { o.Depth = 4 }, func(o *api.Op) { o.Path, o.To = o.To, o.Path },
	} {
		other := o
		changes(&other)
		if op.Same(o, other) || op.Same(other, o) {
			t.Errorf("%v, %v", o, other)
		}
		l = append(l, other)
	}
	for _, a := range append(l, right()...) {
		for _, b := range append(l, right()...) {
			if op.Same(a, b) != equal(a, b) {
				t.Errorf("%.99v, %.99v: %v", a, b, op.Same(a, b))
			}
		}
		if !op.Same(a, op.Clone(a)) {
			t.Errorf("%.99v isn't its clone", a)
		}
	}
}

// spoil changes a row, its spare room too.
func spoil(l []string) {
	for i := range l[:cap(l)] {
		l[:cap(l)][i] = "spoilt"
	}
}

// rowsOf are the rows that calls tell of an operation.
func rowsOf(o api.Op) [][]string {
	h, c := op.Hunk(o), op.Clone(o)
	l := [][]string{h.Old, h.New, c.Old, c.New, op.Paths(o)}
	back, _ := op.Inverse(o)
	for _, one := range back {
		l = append(l, one.Old, one.New)
	}
	var w pack.Writer
	op.Put(&w, o)
	for range 2 {
		got := op.Get(pack.New(w.String()))
		l = append(l, got.Old, got.New)
	}
	return l
}

// P13.1. What is handed in is neither changed nor kept, its spare room neither; what is told shares nothing.
func TestMemory(t *testing.T) {
	for _, kind := range []int{1, 2, 3, 4, 5, 6, 7} {
		room := []string{"a", "b", "c", "d"}
		for _, o := range []api.Op{{Old: room[:2], New: room[:2]}, {Old: room[:2]}, {New: room[:3]}, {Old: room[:0], New: room[1:2]}, {Old: room[:0], New: room[:0]}} {
			o.Kind, o.Path = kind, "p"
			if kind == 4 {
				o.To = "q"
			}
			op.Right(o)
			op.Policy(o)
			op.Same(o, o)
			unshared(t, o, room)
		}
	}
}

// unshared looks whether no row that is told of an operation is another one, or one of room.
func unshared(t *testing.T, o api.Op, room []string) {
	t.Helper()
	before := slices.Clone(room)
	l := rowsOf(o)
	for i, one := range l {
		var kept [][]string
		for _, other := range l {
			kept = append(kept, slices.Clone(other))
		}
		spoil(one)
		for j, other := range l {
			if j != i && !slices.Equal(other, kept[j]) {
				t.Fatalf("%v: row %d changes row %d", o, i, j)
			}
		}
		if !slices.Equal(room, before) {
			t.Fatalf("%v: row %d changes what was handed in", o, i)
		}
	}
}

// P13.1. A writer that an operation was put into hangs on its rows no more.
func TestMemoryOfWriter(t *testing.T) {
	row := []string{"a", "b"}
	o := api.Op{Kind: 3, Path: "p", Old: row, New: row}
	var w pack.Writer
	op.Put(&w, o)
	spoil(row)
	if s := w.String(); s != "\x03\x01p\x00\x02\x01a\x01b\x02\x01a\x01b" {
		t.Errorf("%q", s)
	}
}
