package blame_test

import (
	"fmt"
	"maps"
	"math/rand"
	"slices"
	"strconv"
	"strings"
	"testing"

	"quitclaim/api"
	"quitclaim/blame"
	"quitclaim/patch"
	"quitclaim/state"
	"quitclaim/tree"
)

// brief is the beginning of a value's text.
func brief(v any) string {
	s := fmt.Sprint(v)
	return s[:min(len(s), 600)]
}

// create is an operation.
func create(s string) api.Op { return api.Op{Kind: api.Create, Path: s} }

// remove is an operation.
func remove(s string, lines ...string) api.Op {
	return api.Op{Kind: api.Remove, Path: s, Old: lines}
}

// edit is an operation.
func edit(s string, at int, old, new []string) api.Op {
	return api.Op{Kind: api.Edit, Path: s, At: at, Old: old, New: new}
}

// move is an operation.
func move(s, to string) api.Op { return api.Op{Kind: api.Move, Path: s, To: to} }

// policy is operations about rights at a path.
func policy(s string) []api.Op {
	return []api.Op{{Kind: api.Grant, Path: s, Key: api.Id{7}, Depth: 2}, {Kind: api.Revoke, Path: s, Key: api.Id{7}}}
}

// idOf is a patch's id.
func idOf(t *testing.T, p api.Patch) api.Id {
	t.Helper()
	a, e := patch.Id(p)
	if e != api.OK {
		t.Fatalf("%s: %d", brief(p), e)
	}
	return a
}

// rising are ids in the order of their bytes.
func rising(l ...api.Id) []api.Id {
	l = slices.Clone(l)
	slices.SortFunc(l, func(a, b api.Id) int { return strings.Compare(string(a[:]), string(b[:])) })
	return slices.Compact(l)
}

// row are patches with their ids, each on top of the one ahead, of such operations.
func row(t *testing.T, ops ...[]api.Op) ([]api.Patch, []api.Id) {
	t.Helper()
	var l []api.Patch
	var ids []api.Id
	for i, o := range ops {
		p := api.Patch{Ops: o}
		if i > 0 {
			p.Deps = []api.Id{ids[i-1]}
		}
		l, ids = append(l, p), append(ids, idOf(t, p))
	}
	return l, ids
}

// made is the set of patches, handed in from the last one on.
func made(t *testing.T, l []api.Patch) *state.Set {
	t.Helper()
	l = slices.Clone(l)
	slices.Reverse(l)
	s, e := state.New(l)
	if e != api.OK {
		t.Fatalf("%s: %d", brief(l), e)
	}
	return s
}

// mark is a line that tells its origin.
func mark(o blame.Origin) string { return fmt.Sprintf("%x %d", o.Id, o.Op) }

// marked is a set's tree, each of whose lines tells the operation that put it in: all operations are done again, with such lines.
func marked(t *testing.T, s *state.Set) (tree.Tree, map[string]blame.Origin) {
	t.Helper()
	var x tree.Tree
	marks := map[string]blame.Origin{}
	for _, entry := range s.Order() {
		for i, o := range entry.Patch.Ops {
			lines, _ := x.Get(o.Path)
			origin := blame.Origin{Id: entry.Id, Op: i}
			text := mark(origin)
			marks[text] = origin
			switch o.Kind {
			case api.Remove:
				o.Old = lines
			case api.Edit:
				o.Old, o.New = lines[o.At:o.At+len(o.Old)], slices.Repeat([]string{text}, len(o.New))
			}
			next, e := x.Apply(o)
			if e != api.OK {
				t.Fatalf("%s: %d", brief(o), e)
			}
			x = next
		}
	}
	return x, marks
}

// history is the patches that touched the file at a path, by the words, from the last operation back to the one that created it.
func history(s *state.Set, at string) []api.Id {
	var l []api.Id
	for _, x := range slices.Backward(s.Order()) {
		for _, o := range slices.Backward(x.Patch.Ops) {
			switch {
			case o.Kind == api.Create && o.Path == at, o.Kind == api.Edit && o.Path == at:
				l = append(l, x.Id)
			case o.Kind == api.Move && o.To == at:
				l, at = append(l, x.Id), o.Path
			}
			if o.Kind == api.Create && o.Path == at {
				slices.Reverse(l)
				return slices.Compact(l)
			}
		}
	}
	return nil
}

// texts are lines without their origins.
func texts(l []blame.Line) []string {
	var out []string
	for _, x := range l {
		out = append(out, x.Text)
	}
	return out
}

// looks holds all that is told of a set that doesn't clash against the words.
func looks(t *testing.T, s *state.Set) {
	t.Helper()
	x, e := s.Tree()
	if e != api.OK {
		t.Fatal(e)
	}
	from, marks := marked(t, s)
	left := map[api.Id]int{}
	for _, f := range x.Files() {
		l, e := blame.File(s, f.Path)
		if e != api.OK || !slices.Equal(texts(l), f.Lines) {
			t.Fatalf("%s: %s, %d", f.Path, brief(l), e)
		}
		lines, _ := from.Get(f.Path)
		for i, y := range l {
			if y.Origin != marks[lines[i]] {
				t.Fatalf("%s, line %d of %s: %x, not %x", f.Path, i, brief(f.Lines), y.Origin, marks[lines[i]])
			}
			left[y.Origin.Id]++
		}
		origins(t, s, l)
		if h, e := blame.History(s, f.Path); e != api.OK || !slices.Equal(h, history(s, f.Path)) {
			t.Fatalf("%s: %x, %d, not %x", f.Path, h, e, history(s, f.Path))
		}
	}
	if n, e := blame.Count(s); e != api.OK || n == nil || !maps.Equal(n, left) {
		t.Fatalf("%v, %d, not %v", n, e, left)
	}
	for _, p := range append(places(), "", "/", "A", "zz", "a//b", "a/b/") {
		if _, ok := x.Get(p); !ok {
			none(t, s, p, api.ErrNone)
		}
	}
}

// origins looks whether each line's operation has it among its New ones.
func origins(t *testing.T, s *state.Set, l []blame.Line) {
	t.Helper()
	for _, y := range l {
		p, ok := s.Get(y.Origin.Id)
		if !ok || y.Origin.Op < 0 || y.Origin.Op >= len(p.Ops) || p.Ops[y.Origin.Op].Kind != api.Edit || !slices.Contains(p.Ops[y.Origin.Op].New, y.Text) {
			t.Fatalf("%q isn't of %x", y.Text, y.Origin)
		}
	}
}

// none looks whether of a path nothing is told but an error.
func none(t *testing.T, s *state.Set, at string, want api.Errno) {
	t.Helper()
	if l, e := blame.File(s, at); len(l) != 0 || e != want {
		t.Fatalf("%q: %s, %d", at, brief(l), e)
	}
	if h, e := blame.History(s, at); len(h) != 0 || e != want {
		t.Fatalf("%q: %x, %d", at, h, e)
	}
}

// places are paths, of which some cover others.
func places() []string { return []string{"a", "b", "a/b", "a/c", "b/a", "c"} }

// step is an operation that a tree may take, or not.
func step(r *rand.Rand, x tree.Tree) api.Op {
	to := places()[r.Intn(6)]
	if x.Len() == 0 || r.Intn(6) == 0 {
		return create(to)
	}
	f := x.Files()[r.Intn(x.Len())]
	switch n := r.Intn(12); {
	case n == 0:
		return remove(f.Path, f.Lines...)
	case n < 3:
		return move(f.Path, to)
	case n < 4:
		return policy(f.Path)[r.Intn(2)]
	}
	at := r.Intn(len(f.Lines) + 1)
	var lines []string
	for range r.Intn(4) {
		lines = append(lines, []string{"x", "y", "", "x y"}[r.Intn(4)])
	}
	return edit(f.Path, at, f.Lines[at:at+r.Intn(min(3, len(f.Lines)-at)+1)], lines)
}

// steps are operations that a tree takes, one at least.
func steps(r *rand.Rand, x tree.Tree) []api.Op {
	var l []api.Op
	for n := 1 + r.Intn(5); len(l) < n; {
		o := step(r, x)
		if next, e := x.Apply(o); e == api.OK {
			l, x = append(l, o), next
		}
	}
	return l
}

// grown is a set of up to so many patches, each fit for some of those ahead; and sets that clash, on the way to it.
func grown(t *testing.T, r *rand.Rand, n int) (*state.Set, []*state.Set) {
	t.Helper()
	s := made(t, nil)
	var clashing []*state.Set
	for range n {
		deps := s.Graph().Heads()
		if all := s.Ids(); len(all) > 0 && r.Intn(3) > 0 {
			deps = rising(all[r.Intn(len(all))], all[r.Intn(len(all))])
		}
		base, e := s.At(deps)
		if e != api.OK {
			continue
		}
		p := api.Patch{Deps: deps, Note: strconv.Itoa(r.Intn(1 << 30)), Key: api.Id{byte(r.Intn(3))}, Ops: steps(r, base)}
		next, e := s.With([]api.Patch{p})
		if e != api.OK {
			t.Fatal(e)
		}
		if _, _, clashes := next.Clash(); clashes {
			clashing = append(clashing, next)
		} else {
			s = next
		}
	}
	return s, clashing
}

// P32.1, P32.2. Sets of all kinds, held against the words; of those that clash nothing is told.
func TestSets(t *testing.T) {
	r := rand.New(rand.NewSource(32))
	lines, beside, clashing := 0, 0, 0
	for round := range 1000 {
		s, bad := grown(t, r, 1+round%16)
		looks(t, s)
		n, _ := blame.Count(s)
		for _, k := range n {
			lines += k
		}
		if len(s.Graph().Heads()) > 1 {
			beside++
		}
		for _, x := range bad {
			clash(t, x)
			clashing++
		}
	}
	if lines < 4000 || beside < 100 || clashing < 1000 {
		t.Error(lines, beside, clashing)
	}
}

// clash looks whether of a set that clashes nothing is told.
func clash(t *testing.T, s *state.Set) {
	t.Helper()
	for _, p := range append(places(), "", "zz", "/") {
		none(t, s, p, api.ErrClash)
	}
	if n, e := blame.Count(s); len(n) != 0 || e != api.ErrClash {
		t.Fatal(n, e)
	}
}

// P32.1. The example: a patch that creates a file and puts a line in.
func TestExample(t *testing.T) {
	l, ids := row(t, []api.Op{create("a"), edit("a", 0, nil, []string{"x"})})
	s := made(t, l)
	if m, e := blame.File(s, "a"); e != api.OK || !slices.Equal(m, []blame.Line{{Text: "x", Origin: blame.Origin{Id: ids[0], Op: 1}}}) {
		t.Error(m, e)
	}
	looks(t, s)
}

// line is what a file's line is held against: its text, and the number of its patch, and the place of its operation.
type line struct {
	text   string
	number int
	place  int
}

// tells looks what is told of a file: its lines, and the numbers of the patches that touched it.
func tells(t *testing.T, s *state.Set, ids []api.Id, at string, want []line, touched ...int) {
	t.Helper()
	var lines []blame.Line
	for _, x := range want {
		lines = append(lines, blame.Line{Text: x.text, Origin: blame.Origin{Id: ids[x.number], Op: x.place}})
	}
	if l, e := blame.File(s, at); e != api.OK || !slices.Equal(l, lines) {
		t.Errorf("%s: %s, %d, not %s", at, brief(l), e, brief(lines))
	}
	var by []api.Id
	for _, i := range touched {
		by = append(by, ids[i])
	}
	if h, e := blame.History(s, at); e != api.OK || !slices.Equal(h, by) {
		t.Errorf("%s: %x, %d, not %x", at, h, e, by)
	}
}

// P32.1. Lines put in ahead, between, behind, and in the place of others; those that are the same again are the Edit's own.
func TestEdits(t *testing.T) {
	l, ids := row(t,
		[]api.Op{create("a"), edit("a", 0, nil, []string{"x", "y", "z"})},
		[]api.Op{edit("a", 0, nil, []string{"0"}), edit("a", 4, nil, []string{"9"}), edit("a", 2, nil, []string{"5", "5"})},
		[]api.Op{edit("a", 5, []string{"z", "9"}, []string{"z"}), edit("a", 1, []string{"x"}, nil)},
		[]api.Op{edit("a", 2, []string{"5", "y"}, []string{"5", "y", "y"})},
	)
	tells(t, made(t, l[:1]), ids, "a", []line{{"x", 0, 1}, {"y", 0, 1}, {"z", 0, 1}}, 0)
	tells(t, made(t, l[:2]), ids, "a", []line{{"0", 1, 0}, {"x", 0, 1}, {"5", 1, 2}, {"5", 1, 2}, {"y", 0, 1}, {"z", 0, 1}, {"9", 1, 1}}, 0, 1)
	tells(t, made(t, l[:3]), ids, "a", []line{{"0", 1, 0}, {"5", 1, 2}, {"5", 1, 2}, {"y", 0, 1}, {"z", 2, 0}}, 0, 1, 2)
	tells(t, made(t, l), ids, "a", []line{{"0", 1, 0}, {"5", 1, 2}, {"5", 3, 0}, {"y", 3, 0}, {"y", 3, 0}, {"z", 2, 0}}, 0, 1, 2, 3)
	n, e := blame.Count(made(t, l))
	if e != api.OK || !maps.Equal(n, map[api.Id]int{ids[1]: 2, ids[2]: 1, ids[3]: 3}) {
		t.Error(n, e)
	}
	for i := range l {
		looks(t, made(t, l[:i+1]))
	}
}

// P32.1. A Move keeps all, whatever path the file had; what is created behind it at its old path is another file.
func TestMoves(t *testing.T) {
	l, ids := row(t,
		[]api.Op{create("a"), edit("a", 0, nil, []string{"x"}), create("q")},
		[]api.Op{move("a", "a/b")},
		[]api.Op{move("a/b", "c"), create("a"), edit("a", 0, nil, []string{"x"})},
		[]api.Op{edit("c", 1, nil, []string{"u"})},
		[]api.Op{move("a", "b"), move("c", "a"), move("b", "c")},
	)
	s := made(t, l[:4])
	tells(t, s, ids, "c", []line{{"x", 0, 1}, {"u", 3, 0}}, 0, 1, 2, 3)
	tells(t, s, ids, "a", []line{{"x", 2, 2}}, 2)
	tells(t, s, ids, "q", nil, 0)
	none(t, s, "a/b", api.ErrNone)
	s = made(t, l)
	tells(t, s, ids, "a", []line{{"x", 0, 1}, {"u", 3, 0}}, 0, 1, 2, 3, 4)
	tells(t, s, ids, "c", []line{{"x", 2, 2}}, 2, 4)
	none(t, s, "b", api.ErrNone)
	looks(t, s)
}

// P32.1. What was ahead of a file's last Create, of the file that was removed, or of another one, counts nothing.
func TestCreatedAgain(t *testing.T) {
	l, ids := row(t,
		[]api.Op{create("a"), edit("a", 0, nil, []string{"x"})},
		[]api.Op{edit("a", 0, nil, []string{"y"})},
		[]api.Op{remove("a", "y", "x")},
		[]api.Op{create("a")},
		[]api.Op{edit("a", 0, nil, []string{"x"}), remove("a", "x"), create("a"), edit("a", 0, nil, []string{"z"}), edit("a", 1, nil, []string{"z"})},
		[]api.Op{create("b"), remove("a", "z", "z"), move("b", "a")},
	)
	tells(t, made(t, l[:2]), ids, "a", []line{{"y", 1, 0}, {"x", 0, 1}}, 0, 1)
	none(t, made(t, l[:3]), "a", api.ErrNone)
	if n, e := blame.Count(made(t, l[:3])); len(n) != 0 || e != api.OK {
		t.Error(n, e)
	}
	tells(t, made(t, l[:4]), ids, "a", nil, 3)
	tells(t, made(t, l[:5]), ids, "a", []line{{"z", 4, 3}, {"z", 4, 4}}, 4)
	tells(t, made(t, l), ids, "a", nil, 5)
	none(t, made(t, l), "b", api.ErrNone)
	for i := range l {
		looks(t, made(t, l[:i+1]))
	}
}

// P32.1. Policy at a file's path is nothing on the file; places of operations count it, all the same.
func TestPolicy(t *testing.T) {
	l, ids := row(t, append(policy("a"), create("a")), policy("a"), append(policy(""), edit("a", 0, nil, []string{"x"})), policy("a"), append(policy("q"), create("b")))
	s := made(t, l)
	tells(t, s, ids, "a", []line{{"x", 2, 2}}, 0, 2)
	tells(t, s, ids, "b", nil, 4)
	if n, e := blame.Count(s); e != api.OK || !maps.Equal(n, map[api.Id]int{ids[2]: 1}) {
		t.Error(n, e)
	}
	none(t, s, "q", api.ErrNone)
	looks(t, s)
}

// P32.1. Patches beside one another count in the set's order, by their ids, not as they were handed in.
func TestBeside(t *testing.T) {
	l, ids := row(t, []api.Op{create("a"), create("b")})
	for i := range 40 {
		p := api.Patch{Deps: ids[:1], Note: strconv.Itoa(i), Ops: []api.Op{edit("a", 0, nil, []string{strconv.Itoa(i)})}}
		l, ids = append(l, p), append(ids, idOf(t, p))
	}
	s := made(t, l)
	order := append(ids[:1:1], rising(ids[1:]...)...)
	if h, e := blame.History(s, "a"); e != api.OK || !slices.Equal(h, order) {
		t.Errorf("%x, %d", h, e)
	}
	m, e := blame.File(s, "a")
	if e != api.OK || len(m) != 40 {
		t.Fatal(m, e)
	}
	// Each one puts its line in ahead of all.
	for i, x := range m {
		if x.Origin != (blame.Origin{Id: order[40-i]}) || x.Text != strconv.Itoa(slices.Index(ids, order[40-i])-1) {
			t.Errorf("%d: %q of %x", i, x.Text, x.Origin)
		}
	}
	looks(t, s)
}

// P32.1. ErrClash is told ahead of ErrNone, wherever the set clashes.
func TestClash(t *testing.T) {
	good := []api.Op{create("a"), edit("a", 0, nil, []string{"x"})}
	for _, o := range []api.Op{create("a"), create("a/b"), remove("a"), remove("q"), edit("a", 0, []string{"y"}, nil), edit("a", 2, nil, []string{"y"}), edit("q", 0, nil, []string{"y"}), move("q", "b"), move("a", "c/d")} {
		l, _ := row(t, good, []api.Op{create("c")}, []api.Op{o}, []api.Op{create("d")})
		clash(t, made(t, l))
		looks(t, made(t, l[:2]))
	}
	l, _ := row(t, []api.Op{remove("a")})
	clash(t, made(t, l))
}

// P32.1. Without patches, and of a set of policy alone, there is nothing.
func TestEmpty(t *testing.T) {
	l, _ := row(t, policy("a"), policy(""))
	for _, m := range [][]api.Patch{nil, {}, l[:1], l} {
		s := made(t, m)
		looks(t, s)
		if n, e := blame.Count(s); len(n) != 0 || e != api.OK {
			t.Error(n, e)
		}
	}
}

// P32.1. Lines as a text, whatever they are.
func TestText(t *testing.T) {
	a, b := blame.Origin{Id: api.Id{0, 0x1a, 0x9b, 0xff, 0xee}, Op: 3}, blame.Origin{Id: api.Id{0xca, 0xfe, 0xba, 0xbe, 31: 1}, Op: -1}
	for _, c := range []struct {
		l    []blame.Line
		want string
	}{
		{nil, ""}, {[]blame.Line{}, ""}, {[]blame.Line{{}}, "00000000 \n"}, {[]blame.Line{{"x", a}}, "001a9bff x\n"}, {[]blame.Line{{"x y ", a}, {"", b}, {" ", a}}, "001a9bff x y \ncafebabe \n001a9bff  \n"},
		{[]blame.Line{{"\xff\x00", b}, {"p\nq", b}}, "cafebabe \xff\x00\ncafebabe p\nq\n"}, {[]blame.Line{{strings.Repeat("z", 5000), b}}, "cafebabe " + strings.Repeat("z", 5000) + "\n"},
	} {
		before := slices.Clone(c.l)
		if s := blame.Text(c.l); s != c.want || !slices.Equal(c.l, before) {
			t.Errorf("%v: %q", c.l, s)
		}
	}
	l, ids := row(t, []api.Op{create("a"), edit("a", 0, nil, []string{"x", "\x00 y"})})
	m, _ := blame.File(made(t, l), "a")
	if s := blame.Text(m); s != fmt.Sprintf("%x x\n%x \x00 y\n", ids[0][:4], ids[0][:4]) {
		t.Errorf("%q", s)
	}
}

// P32.1, P32.2. As many patches, and lines, as may be.
func TestGreat(t *testing.T) {
	var ops [][]api.Op
	for i := range api.MaxPatches {
		if i == 0 {
			ops = append(ops, []api.Op{create("a"), edit("a", 0, nil, slices.Repeat([]string{"l"}, api.MaxLines-1))})
			continue
		}
		at := i * 7 % (api.MaxLines - 1)
		ops = append(ops, []api.Op{edit("a", at, nil, []string{strconv.Itoa(i)}), edit("a", at+1, []string{"l"}, nil), edit("a", 0, nil, []string{"first"}), edit("a", 0, []string{"first"}, nil)})
	}
	// Each line is put in anew, by a patch of its own.
	l, ids := row(t, ops...)
	s := made(t, l)
	m, e := blame.File(s, "a")
	if e != api.OK || len(m) != api.MaxLines-1 {
		t.Fatal(len(m), e)
	}
	origins(t, s, m)
	for at, x := range m {
		if i, _ := strconv.Atoi(x.Text); at != i*7%(api.MaxLines-1) || x.Origin != (blame.Origin{Id: ids[i]}) {
			t.Fatalf("%d: %q of %x", at, x.Text, x.Origin)
		}
	}
	n, e := blame.Count(s)
	if h, f := blame.History(s, "a"); e != api.OK || f != api.OK || len(n) != api.MaxPatches-1 || n[ids[0]] != 0 || !slices.Equal(h, ids) {
		t.Error(len(n), e, len(h), f)
	}
}

// P32.1. The set stays as it was; what is told shares nothing with it, nor with another answer.
func TestMemory(t *testing.T) {
	l, ids := row(t, []api.Op{create("a"), edit("a", 0, nil, []string{"x", "y"}), create("b"), edit("b", 0, nil, []string{"z"})}, []api.Op{edit("a", 1, nil, []string{"u", "v"}), move("b", "c")})
	s := made(t, l)
	for range 2 {
		one, _ := blame.File(s, "a")
		other, _ := blame.File(s, "c")
		h, _ := blame.History(s, "a")
		n, _ := blame.Count(s)
		for _, m := range [][]blame.Line{one[:cap(one)], other[:cap(other)]} {
			for i := range m {
				m[i] = blame.Line{Text: "spoilt", Origin: blame.Origin{Id: api.Id{9}, Op: 9}}
			}
		}
		for i := range h[:cap(h)] {
			h[:cap(h)][i] = api.Id{9}
		}
		n[ids[0]], n[api.Id{9}] = 70, 7
		tells(t, s, ids, "a", []line{{"x", 0, 1}, {"u", 1, 0}, {"v", 1, 0}, {"y", 0, 1}}, 0, 1)
		tells(t, s, ids, "c", []line{{"z", 0, 3}}, 0, 1)
		if m, e := blame.Count(s); e != api.OK || !maps.Equal(m, map[api.Id]int{ids[0]: 3, ids[1]: 2}) {
			t.Error(m, e)
		}
		looks(t, s)
	}
	for i, p := range s.Patches() {
		if !patch.Same(p, l[i]) {
			t.Errorf("patch %d was changed", i)
		}
	}
}
