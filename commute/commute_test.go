package commute_test

import (
	"fmt"
	"math"
	"math/rand"
	"reflect"
	"slices"
	"strconv"
	"strings"
	"testing"

	"quitclaim/api"
	"quitclaim/commute"
	"quitclaim/op"
	"quitclaim/tree"
)

// deep is a path of as many parts and bytes as may be.
var deep = strings.Repeat(strings.Repeat("b", 11)+"/", 15) + strings.Repeat("c", 20)

// many is a row of so many lines, no two alike.
func many(n int) []string {
	l := make([]string, n)
	for i := range l {
		l[i] = strconv.Itoa(i)
	}
	return l
}

// brief is the beginning of a value's text.
func brief(v any) string {
	s := fmt.Sprint(v)
	return s[:min(len(s), 300)]
}

// places are paths of which some cover others, and some stand between these in the order of bytes.
var places = []string{"a", "a/b", "a/b/c", "a-", "a.b/c", "a0", "ab", "b", "b/a", deep}

// right are operations of all kinds that are right, at these paths.
func right() []api.Op {
	l := []api.Op{{Kind: 5}, {Kind: 5, Key: api.Id{31: 1}, Depth: 8}, {Kind: 6}, {Kind: 5, Path: "a/b", Depth: 1}, {Kind: 6, Path: "a", Key: api.Id{1}}, {Kind: 6, Path: deep}}
	for _, p := range places {
		l = append(l, api.Op{Kind: 1, Path: p}, api.Op{Kind: 2, Path: p}, api.Op{Kind: 2, Path: p, Old: []string{"x", "y"}}, api.Op{Kind: 3, Path: p, New: []string{"z"}}, api.Op{Kind: 3, Path: p, At: 5, Old: []string{"y"}})
		for _, to := range places {
			if to != p {
				l = append(l, api.Op{Kind: 4, Path: p, To: to})
			}
		}
	}
	return l
}

// edits are operations of one kind and path, of which some are apart, just not, or not at all.
func edits() []api.Op {
	var l []api.Op
	for _, at := range []int{0, 1, 2, 3, 4, 5, 7, 997, 999, 1000} {
		for _, old := range [][]string{nil, {"x"}, {"x", "y"}} {
			for _, new := range [][]string{nil, {""}, {"x", "z", "x"}} {
				if len(old)+len(new) > 0 {
					l = append(l, api.Op{Kind: 3, Path: "a", At: at, Old: old, New: new})
				}
			}
		}
	}
	for _, n := range []int{3, 995, 998, 1000} {
		l = append(l, api.Op{Kind: 3, Path: "a", Old: many(n)}, api.Op{Kind: 3, Path: "a", New: many(n)}, api.Op{Kind: 3, Path: "a", At: 1, Old: many(n), New: many(n - 2)})
	}
	return l
}

// wrong are operations that aren't right.
func wrong() []api.Op {
	return []api.Op{
		{}, {Path: "q"}, {Kind: 7, Path: "q"}, {Kind: -1, Path: "q"}, {Kind: 257, Path: "q"}, {Kind: math.MaxInt, Path: "q"},
		{Kind: 1}, {Kind: 1, Path: "Q"}, {Kind: 1, Path: "q/"}, {Kind: 1, Path: ".."}, {Kind: 1, Path: "q", Old: []string{"x"}}, {Kind: 1, Path: "q", At: 1}, {Kind: 1, Path: deep + "c"}, {Kind: 1, Path: "q", Key: api.Id{1}},
		{Kind: 2, Path: "q", Old: []string{"x\n"}}, {Kind: 2, Path: "q", Old: many(1001)}, {Kind: 2, Path: "q", New: []string{"x"}},
		{Kind: 3, Path: "q"}, {Kind: 3, Path: "q", At: 7}, {Kind: 3, Path: "q", At: 1001, New: []string{"x"}}, {Kind: 3, Path: "q", At: -1, New: []string{"x"}}, {Kind: 3, Path: "a", At: 1001, New: []string{"x"}}, {Kind: 3, Path: "a", At: -9, Old: []string{"x"}}, {Kind: 3, Path: "a", At: math.MaxInt, Old: []string{"x"}}, {Kind: 3, Path: "a", At: math.MinInt, New: []string{"x"}}, {Kind: 3, Path: "a", At: 500}, {Kind: 3, Path: "a", At: 500, New: []string{strings.Repeat("x", 201)}}, {Kind: 3, Path: "a", At: 500, Old: make([]string, 1001)},
		{Kind: 4, Path: "q", To: "q"}, {Kind: 4, Path: "q"}, {Kind: 4, To: "q"}, {Kind: 4, Path: "q", To: "/"}, {Kind: 4, Path: "q", To: "r", Depth: 1},
		{Kind: 5, Path: "q", Depth: 9}, {Kind: 5, Path: "q", Depth: -1}, {Kind: 5, Path: "q/"}, {Kind: 5, Path: "q", At: 1}, {Kind: 6, Path: "q", Depth: 1}, {Kind: 6, Path: "Q"}, {Kind: 6, Path: "q", To: "r"},
	}
}

// covers tells whether a path covers another one.
func covers(a, b string) bool { return a == b || strings.HasPrefix(b, a+"/") }

// paths are those of an operation that is no policy.
func paths(o api.Op) []string {
	if o.Kind == 4 {
		return []string{o.Path, o.To}
	}
	return []string{o.Path}
}

// apart tells whether two operations are, by the words.
func apart(a, b api.Op) bool {
	if op.Right(a) != api.OK || op.Right(b) != api.OK {
		return false
	}
	if a.Kind >= 5 || b.Kind >= 5 {
		return true
	}
	if a.Kind == 3 && b.Kind == 3 && a.Path == b.Path {
		return b.At+len(b.Old) < a.At || b.At > a.At+len(a.New)
	}
	for _, s := range paths(a) {
		for _, other := range paths(b) {
			if covers(s, other) || covers(other, s) {
				return false
			}
		}
	}
	return true
}

// swapped are two operations that are apart in the other order, by the words.
func swapped(a, b api.Op) (api.Op, api.Op) {
	if a.Kind == 3 && b.Kind == 3 && a.Path == b.Path {
		if b.At < a.At {
			a.At += len(b.New) - len(b.Old)
		} else {
			b.At -= len(a.New) - len(a.Old)
		}
	}
	return b, a
}

// zero tells whether an operation is.
func zero(o api.Op) bool { return reflect.DeepEqual(o, api.Op{}) }

// swaps looks at one pair, and tells whether it is apart.
func swaps(t *testing.T, a, b api.Op) bool {
	t.Helper()
	want := apart(a, b)
	c, d, ok := commute.Swap(a, b)
	if commute.Apart(a, b) != want || ok != want {
		t.Fatalf("%s, %s are apart: %v, %v", brief(a), brief(b), commute.Apart(a, b), ok)
	}
	if !want {
		if !zero(c) || !zero(d) {
			t.Fatalf("%s, %s: %s, %s", brief(a), brief(b), brief(c), brief(d))
		}
		return false
	}
	if first, then := swapped(a, b); !op.Same(c, first) || !op.Same(d, then) {
		t.Fatalf("%s, %s: %s, %s, not %s, %s", brief(a), brief(b), brief(c), brief(d), brief(first), brief(then))
	}
	if op.Right(c) != api.OK || op.Right(d) != api.OK {
		return true
	}
	if e, f, ok := commute.Swap(c, d); !ok || !op.Same(e, a) || !op.Same(f, b) {
		t.Fatalf("%s, %s, swapped twice: %s, %s, %v", brief(a), brief(b), brief(e), brief(f), ok)
	}
	return true
}

// P16.1. All pairs of operations of all kinds: whether they are apart, and what they are, swapped.
func TestApartAndSwap(t *testing.T) {
	l := right()
	seen := map[bool]int{}
	for _, a := range l {
		for _, b := range l {
			seen[swaps(t, a, b)]++
		}
	}
	for _, a := range edits() {
		for _, b := range append(edits(), l...) {
			seen[swaps(t, a, b)]++
			swaps(t, b, a)
		}
	}
	if seen[true] == 0 || seen[false] == 0 {
		t.Error(seen)
	}
}

// P16.1. What isn't right isn't apart, whatever the other one is, policy too.
func TestWrong(t *testing.T) {
	for _, a := range wrong() {
		if op.Right(a) == api.OK {
			t.Fatalf("%s is right", brief(a))
		}
		for _, b := range slices.Concat(right(), edits(), wrong()) {
			if swaps(t, a, b) || swaps(t, b, a) {
				t.Fatalf("%s, %s", brief(a), brief(b))
			}
		}
	}
}

// P16.1. Which ones are apart, told one by one.
func TestApartByHand(t *testing.T) {
	create := func(p string) api.Op { return api.Op{Kind: 1, Path: p} }
	move := func(p, to string) api.Op { return api.Op{Kind: 4, Path: p, To: to} }
	edit := func(p string, at int, old, new []string) api.Op {
		return api.Op{Kind: 3, Path: p, At: at, Old: old, New: new}
	}
	x, y := []string{"x"}, []string{"y", "y"}
	for i, c := range []struct {
		a, b api.Op
		want bool
	}{
		{create("a"), create("b"), true}, {create("a"), create("a/b"), false}, {create("a/b"), create("a"), false}, {create("a"), create("a"), false}, {create("a/b"), create("a/c"), true}, {create("a"), create("ab"), true}, {create("a/b"), create("a/bc"), true},
		{move("a", "b"), create("c"), true}, {move("a", "b"), create("b/c"), false}, {move("a", "b"), create("a/c"), false}, {create("b"), move("c", "a"), true}, {create("b"), move("c", "b"), false}, {create("b"), move("b", "c"), false}, {move("a", "b"), move("c", "d"), true}, {move("a", "b"), move("c", "b/d"), false}, {move("a", "b"), move("b", "c"), false}, {move("a", "a/b"), move("c", "d"), true},
		{edit("a", 0, nil, y), edit("a", 5, x, nil), true}, {edit("a", 0, nil, y), edit("a", 2, x, nil), false}, {edit("a", 0, nil, y), edit("a", 3, x, nil), true}, {edit("a", 4, x, y), edit("a", 3, nil, x), true}, {edit("a", 4, x, y), edit("a", 3, x, nil), false}, {edit("a", 4, x, y), edit("a", 2, x, nil), true}, {edit("a", 4, x, nil), edit("a", 4, x, nil), false}, {edit("a", 4, x, nil), edit("a", 5, x, nil), true},
		{edit("a", 0, x, nil), edit("b", 0, x, nil), true}, {edit("a", 0, x, nil), edit("a/b", 9, x, nil), false}, {edit("a", 0, x, nil), create("a"), false}, {edit("a", 0, x, nil), api.Op{Kind: 2, Path: "a"}, false}, {edit("a", 0, x, nil), move("b", "a"), false},
		{create("a"), api.Op{Kind: 5, Path: "a"}, true}, {api.Op{Kind: 6}, create("a"), true}, {api.Op{Kind: 5, Path: "a"}, api.Op{Kind: 6, Path: "a"}, true}, {api.Op{Kind: 5, Path: "a"}, api.Op{Kind: 5, Path: "a"}, true}, {api.Op{Kind: 5, Path: "a", Depth: 9}, create("b"), false}, {create("A"), api.Op{Kind: 6}, false}, {api.Op{}, api.Op{Kind: 6}, false},
	} {
		if swaps(t, c.a, c.b) != c.want || commute.Apart(c.a, c.b) != c.want {
			t.Errorf("%d: %s, %s", i, brief(c.a), brief(c.b))
		}
	}
}

// P16.1. The places of two Edits of one path, also where one of them has no place any more.
func TestSwapPlaces(t *testing.T) {
	for _, c := range []struct {
		a, b        api.Op
		first, then int
	}{
		{api.Op{At: 0, New: many(2)}, api.Op{At: 5, Old: many(1)}, 3, 0}, {api.Op{At: 0, Old: many(4)}, api.Op{At: 5, Old: many(1)}, 9, 0}, {api.Op{At: 5, Old: many(1)}, api.Op{At: 0, New: many(2)}, 0, 7}, {api.Op{At: 5, Old: many(1)}, api.Op{At: 0, Old: many(2)}, 0, 3}, {api.Op{At: 5, New: many(3), Old: many(3)}, api.Op{At: 9, Old: many(2)}, 9, 5},
		{api.Op{At: 0, Old: many(4)}, api.Op{At: 1000, New: many(1)}, 1004, 0}, {api.Op{At: 1000, New: many(1)}, api.Op{At: 1, New: many(9)}, 1, 1009}, {api.Op{At: 0, Old: many(1000)}, api.Op{At: 1000, Old: many(1)}, 2000, 0},
	} {
		c.a.Kind, c.b.Kind, c.a.Path, c.b.Path = 3, 3, "p/q", "p/q"
		first, then, ok := commute.Swap(c.a, c.b)
		if !ok || first.At != c.first || then.At != c.then {
			t.Errorf("%s, %s: %d, %d, %v", brief(c.a), brief(c.b), first.At, then.At, ok)
		}
		c.a.At, c.b.At = c.then, c.first
		if !op.Same(first, c.b) || !op.Same(then, c.a) {
			t.Errorf("%s, %s", brief(first), brief(then))
		}
		c.a.Path = "p/r"
		if first, then, ok = commute.Swap(c.a, c.b); ok && (first.At != c.b.At || then.At != c.a.At) {
			t.Errorf("of two paths: %s, %s", brief(first), brief(then))
		}
	}
}

// trees are all small ones, of files at some paths, each with one of some rows of lines.
func trees(t *testing.T, paths []string, rows ...[]string) []tree.Tree {
	t.Helper()
	all := [][]tree.File{nil}
	for _, p := range paths {
		for _, f := range slices.Clone(all) {
			for _, l := range rows {
				all = append(all, append(slices.Clone(f), tree.File{Path: p, Lines: l}))
			}
		}
	}
	var l []tree.Tree
	for _, f := range all {
		if x, e := tree.From(f); e == api.OK {
			l = append(l, x)
		}
	}
	return l
}

// changes are operations that change small trees.
func changes() []api.Op {
	l := []api.Op{{Kind: 5, Path: "a"}, {Kind: 6}}
	for _, p := range []string{"a", "a/b", "b", "c"} {
		l = append(l, api.Op{Kind: 1, Path: p}, api.Op{Kind: 2, Path: p}, api.Op{Kind: 2, Path: p, Old: []string{"x", "y", "z"}})
		for _, to := range []string{"a", "a/b", "b", "c", "c/d"} {
			if to != p {
				l = append(l, api.Op{Kind: 4, Path: p, To: to})
			}
		}
		for at := range 6 {
			l = append(l, api.Op{Kind: 3, Path: p, At: at, New: []string{"u"}}, api.Op{Kind: 3, Path: p, At: at, New: []string{"v", "x"}})
		}
		for at, s := range []string{"x", "y", "z"} {
			l = append(l, api.Op{Kind: 3, Path: p, At: at, Old: []string{s}}, api.Op{Kind: 3, Path: p, At: at, Old: []string{s}, New: []string{"x", "y"}})
		}
		l = append(l, api.Op{Kind: 3, Path: p, At: 1, Old: []string{"y", "z"}}, api.Op{Kind: 3, Path: p, Old: []string{"x", "y"}, New: []string{"w"}})
	}
	return l
}

// P16.2. On all small trees, which have room for whatever is done, what is apart can be applied in the other order, and makes the same tree.
func TestSwapMakesTheSame(t *testing.T) {
	seen := map[[2]int]int{}
	all := changes()
	for _, x := range trees(t, []string{"a", "a/b", "b", "c"}, nil, []string{"x", "y", "z"}) {
		for _, a := range all {
			y, e := x.Apply(a)
			if e != api.OK {
				continue
			}
			for _, b := range all {
				c, d, ok := commute.Swap(a, b)
				if !ok {
					continue
				}
				z, e := y.Apply(b)
				other, _, f := x.All([]api.Op{c, d})
				if e == api.OK && (f != api.OK || !tree.Same(z, other)) {
					t.Fatalf("%s on %s behind %s: %d, %d, %s, not %s", brief(b), brief(x.Files()), brief(a), e, f, brief(other.Files()), brief(z.Files()))
				}
				if e == api.OK {
					seen[[2]int{a.Kind, b.Kind}]++
				}
			}
		}
	}
	for a := 1; a <= 6; a++ {
		for b := 1; b <= 6; b++ {
			if seen[[2]int{a, b}] == 0 {
				t.Errorf("kinds %d and %d are never apart", a, b)
			}
		}
	}
}

// P16.2. Where there is no room, one order may not be applied; where there is just so much, both make the same.
func TestSwapWithoutRoom(t *testing.T) {
	var l []tree.File
	for i := range 200 {
		l = append(l, tree.File{Path: "d/" + strconv.Itoa(i)})
	}
	l[7].Lines = many(1000)
	x, e := tree.From(l)
	if e != api.OK {
		t.Fatal(e)
	}
	for i, c := range [][2]api.Op{
		{{Kind: 2, Path: "d/1"}, {Kind: 1, Path: "e"}}, {{Kind: 3, Path: "d/7", Old: many(4)}, {Kind: 3, Path: "d/7", At: 900, New: many(4)}}, {{Kind: 4, Path: "d/7", To: "e"}, {Kind: 3, Path: "d/8", New: many(1000)}},
	} {
		want, _, e := x.All(c[:])
		first, then, ok := commute.Swap(c[0], c[1])
		if !ok || e != api.OK {
			t.Fatalf("%d: %v, %d", i, ok, e)
		}
		got, n, e := x.All([]api.Op{first, then})
		if i < 2 && (n != 0 || e == api.OK) || i == 2 && (e != api.OK || !tree.Same(got, want)) {
			t.Errorf("%d: %d, %d", i, n, e)
		}
		less, _, _ := x.All([]api.Op{{Kind: 2, Path: "d/3"}, {Kind: 3, Path: "d/7", At: 950, Old: many(1000)[950:]}})
		want, _, e = less.All(c[:])
		got, _, f := less.All([]api.Op{first, then})
		if e != api.OK || f != api.OK || !tree.Same(got, want) {
			t.Errorf("%d with room: %d, %d", i, e, f)
		}
	}
}

// passed is an operation, passed ahead of a row from its last one on, what the row becomes, and whether it can be; or the place where it can't.
func passed(l []api.Op, o api.Op) (api.Op, []api.Op, int, bool) {
	if len(l) == 0 {
		return o, nil, 0, true
	}
	last := len(l) - 1
	if !apart(l[last], o) {
		return api.Op{}, nil, last, false
	}
	o, behind := swapped(l[last], o)
	o, rest, at, ok := passed(l[:last], o)
	return o, append(rest, behind), at, ok
}

// rowsOf are two rows in the other order, by the words, and whether they are apart; or where they touch.
func rowsOf(a, b []api.Op) (first, then []api.Op, i, k int, ok bool) {
	then = a
	for k, o := range b {
		o, rest, at, ok := passed(then, o)
		if !ok {
			return nil, nil, at, k, false
		}
		first, then = append(first, o), rest
	}
	return first, then, 0, 0, true
}

// rows looks at two rows, and tells whether they are apart.
func rows(t *testing.T, a, b []api.Op) bool {
	t.Helper()
	first, then, i, k, want := rowsOf(a, b)
	c, d, ok := commute.Rows(a, b)
	if ok != want || !slices.EqualFunc(c, first, op.Same) || !slices.EqualFunc(d, then, op.Same) {
		t.Fatalf("%s, %s: %s, %s, %v, not %s, %s, %v", brief(a), brief(b), brief(c), brief(d), ok, brief(first), brief(then), want)
	}
	n, m, touch := commute.Touch(a, b)
	if touch == want || n != i || m != k {
		t.Fatalf("%s, %s touch at %d, %d, %v, not %d, %d, %v", brief(a), brief(b), n, m, touch, i, k, !want)
	}
	return want
}

// short are all rows of at most so many operations of some.
func short(choice []api.Op, most int) [][]api.Op {
	l, row := [][]api.Op{nil}, [][]api.Op{nil}
	for range most {
		var next [][]api.Op
		for _, r := range row {
			for _, o := range choice {
				next = append(next, append(slices.Clone(r), o))
			}
		}
		l, row = append(l, next...), next
	}
	return l
}

// P16.1. All short rows of some operations, wrong ones among them.
func TestRowsAndTouch(t *testing.T) {
	seen := map[bool]int{}
	choice := []api.Op{
		{Kind: 1, Path: "a"}, {Kind: 1, Path: "b"}, {Kind: 2, Path: "c", Old: []string{"x"}}, {Kind: 4, Path: "b", To: "d"}, {Kind: 5, Path: "a"}, {Kind: 1, Path: "A"},
		{Kind: 3, Path: "e", New: many(2)}, {Kind: 3, Path: "e", Old: many(3)}, {Kind: 3, Path: "e", At: 4, Old: many(1), New: many(3)}, {Kind: 3, Path: "e", At: 9, New: many(1)}, {Kind: 3, Path: "e", At: 1000, New: many(1)}, {Kind: 3, Path: "a", At: 9, New: many(1)},
	}
	all := short(choice, 2)
	for _, a := range all {
		for _, b := range all {
			seen[rows(t, a, b)]++
		}
	}
	r := rand.New(rand.NewSource(16))
	for range 30000 {
		l := make([]api.Op, 2+r.Intn(7))
		for i := range l {
			l[i] = choice[r.Intn(len(choice))]
			if l[i].Kind == 3 {
				l[i].At = r.Intn(40)
			} else {
				l[i].Path = string(rune('f' + r.Intn(20)))
			}
		}
		cut := r.Intn(len(l) + 1)
		seen[rows(t, l[:cut:cut], l[cut:])]++
	}
	if seen[true] < 1000 || seen[false] < 1000 {
		t.Error(seen)
	}
}

// P16.1. Where one row is empty there is nothing to be swapped: the other one stays as it is, wrong operations too.
func TestRowsEmpty(t *testing.T) {
	for _, none := range [][]api.Op{nil, {}} {
		for _, l := range [][]api.Op{nil, {}, {{Kind: 1, Path: "a"}}, wrong(), right()} {
			if !rows(t, none, l) || !rows(t, l, none) {
				t.Errorf("%s", brief(l))
			}
		}
	}
}

// P16.1. A row's operation goes ahead of the other row's last one first; the first operations that can't be swapped are told.
func TestTouchFirst(t *testing.T) {
	create := func(l ...string) []api.Op {
		var out []api.Op
		for _, s := range l {
			out = append(out, api.Op{Kind: 1, Path: s})
		}
		return out
	}
	for _, c := range []struct {
		a, b []api.Op
		i, k int
		want bool
	}{
		{create("a", "b"), create("c", "b/d"), 1, 1, true}, {create("a", "b"), create("b/c", "a/c"), 1, 0, true}, {create("a", "b"), create("a/c", "b/c"), 0, 0, true}, {create("a", "b", "c"), []api.Op{{Kind: 4, Path: "a", To: "b"}}, 1, 0, true}, {create("a", "a", "a"), create("z", "y", "a", "a"), 2, 2, true},
		{create("a"), nil, 0, 0, false}, {nil, create("a"), 0, 0, false}, {create("a", "b"), create("c", "d"), 0, 0, false}, {create("a", "A", "b"), create("c"), 1, 0, true}, {create("a"), create("A"), 0, 0, true},
	} {
		if i, k, ok := commute.Touch(c.a, c.b); i != c.i || k != c.k || ok != c.want {
			t.Errorf("%s, %s: %d, %d, %v", brief(c.a), brief(c.b), i, k, ok)
		}
		rows(t, c.a, c.b)
	}
}

// P16.1. Places go on from swap to swap; an operation that has none any more on its way can't be swapped further.
func TestRowsPlaces(t *testing.T) {
	edit := func(at, old, new int) api.Op {
		return api.Op{Kind: 3, Path: "a", At: at, Old: many(old), New: many(new)}
	}
	x, y, ok := commute.Rows([]api.Op{edit(0, 0, 2), edit(9, 3, 0), {Kind: 1, Path: "b"}}, []api.Op{edit(20, 1, 5), edit(5, 0, 4)})
	if !ok || len(x) != 2 || len(y) != 3 || !op.Same(x[0], edit(21, 1, 5)) || !op.Same(x[1], edit(3, 0, 4)) || !op.Same(y[0], edit(0, 0, 2)) || !op.Same(y[1], edit(13, 3, 0)) {
		t.Errorf("%v, %v, %v", x, y, ok)
	}
	far := edit(998, 0, 1)
	x, y, ok = commute.Rows([]api.Op{edit(0, 5, 0)}, []api.Op{far})
	if !ok || x[0].At != 1003 || y[0].At != 0 {
		t.Errorf("%v, %v, %v", x, y, ok)
	}
	for i, a := range [][]api.Op{{{Kind: 6}, edit(0, 5, 0)}, {{Kind: 1, Path: "b"}, edit(0, 5, 0)}, {edit(0, 0, 5), edit(9, 5, 0)}} {
		if n, m, touch := commute.Touch(a, []api.Op{{Kind: 5}, far}); n != 0 || m != 1 || !touch {
			t.Errorf("%d: %d, %d, %v", i, n, m, touch)
		}
		if rows(t, a, []api.Op{far}) {
			t.Error(i)
		}
	}
	if n, m, touch := commute.Touch([]api.Op{edit(1000, 1, 0)}, []api.Op{edit(3, 0, 7), {Kind: 6}}); n != 0 || m != 1 || !touch {
		t.Errorf("%d, %d, %v", n, m, touch)
	}
}

// P16.2. Rows that are applied one behind the other make the same tree, swapped.
func TestRowsMakeTheSame(t *testing.T) {
	r := rand.New(rand.NewSource(162))
	all := changes()
	seen := 0
	for _, x := range trees(t, []string{"a", "a/b", "b", "c"}, nil, []string{"x", "y", "z"}) {
		for range 400 {
			var l []api.Op
			y := x
			for range 300 {
				o := all[r.Intn(len(all))]
				if z, e := y.Apply(o); e == api.OK && len(l) < 6 {
					l, y = append(l, o), z
				}
			}
			cut := r.Intn(len(l) + 1)
			c, d, ok := commute.Rows(l[:cut], l[cut:])
			if !ok || cut == 0 || cut == len(l) {
				continue
			}
			if z, _, e := x.All(slices.Concat(c, d)); e != api.OK || !tree.Same(y, z) {
				t.Fatalf("%s on %s: %d, %s, not %s", brief(l), brief(x.Files()), e, brief(z.Files()), brief(y.Files()))
			}
			seen++
		}
	}
	if seen < 50 {
		t.Error(seen)
	}
}

// P16.1. Long rows end, too.
func TestLongRows(t *testing.T) {
	var a, b []api.Op
	for i := range 300 {
		a, b = append(a, api.Op{Kind: 1, Path: "a/" + strconv.Itoa(i)}), append(b, api.Op{Kind: 1, Path: "b/" + strconv.Itoa(i)})
	}
	if c, d, ok := commute.Rows(a, b); !ok || !slices.EqualFunc(c, b, op.Same) || !slices.EqualFunc(d, a, op.Same) {
		t.Error(ok)
	}
	a[3], b[250] = api.Op{Kind: 1, Path: "q"}, api.Op{Kind: 1, Path: "q/r"}
	if i, k, ok := commute.Touch(a, b); i != 3 || k != 250 || !ok {
		t.Error(i, k, ok)
	}
}

// spoil changes operations' rows, and the row of them, their spare room too.
func spoil(l []api.Op) {
	l = l[:cap(l)]
	for i, o := range l {
		for _, row := range [][]string{o.Old[:cap(o.Old)], o.New[:cap(o.New)]} {
			for k := range row {
				row[k] = "spoilt"
			}
		}
		l[i] = api.Op{Kind: 99, Path: "spoilt"}
	}
}

// P16.1. What is handed in is neither changed nor kept, its spare room neither; what is told shares nothing, though what is handed in does.
func TestMemory(t *testing.T) {
	for i, c := range [][2]api.Op{
		{{Kind: 3, Path: "a", At: 1}, {Kind: 3, Path: "a", At: 9}}, {{Kind: 3, Path: "a", At: 9}, {Kind: 3, Path: "a", At: 1}}, {{Kind: 3, Path: "a", At: 1}, {Kind: 3, Path: "b", At: 1}}, {{Kind: 3, Path: "a"}, {Kind: 5, Path: "a"}}, {{Kind: 6}, {Kind: 3, Path: "a"}},
	} {
		room := []string{"x", "y", "z", "u"}
		for k := range c {
			if c[k].Kind == 3 {
				c[k].Old, c[k].New = room[:2], room[:2]
			}
		}
		first, then, ok := commute.Swap(c[0], c[1])
		if !ok {
			t.Fatal(i)
		}
		want := op.Clone(then)
		spoil([]api.Op{{Old: first.Old}})
		spoil([]api.Op{{New: then.New}})
		if len(first.New) > 0 && first.New[0] != "x" || !slices.Equal(then.Old, want.Old) {
			t.Errorf("%d: rows of an answer are one: %v, %v", i, first, then)
		}
		spoil([]api.Op{first, then})
		a, b := []api.Op{c[0], {Kind: 6}, {Kind: 1, Path: "spare"}}, []api.Op{{Kind: 5}, c[1], {Kind: 1, Path: "spare"}}
		d, e, ok := commute.Rows(a[:2], b[:2])
		spoil(d)
		if !ok || len(e) != 2 || e[0].Kind != c[0].Kind || len(e[0].Old) > 0 && e[0].Old[0] != "x" || len(e[0].New) > 0 && e[0].New[1] != "y" {
			t.Errorf("%d: rows are one: %v, %v", i, e, ok)
		}
		spoil(e)
		commute.Touch(a[:2], b[:2])
		commute.Apart(c[0], c[1])
		if !slices.Equal(room, []string{"x", "y", "z", "u"}) || !op.Same(a[0], c[0]) || !op.Same(b[1], c[1]) || a[2].Path != "spare" || b[2].Path != "spare" {
			t.Errorf("%d: %q, %v, %v", i, room, a, b)
		}
	}
}

// P16.1. Rows that aren't swapped with anything, or with what doesn't move them, are new memory all the same.
func TestMemoryOfEmpty(t *testing.T) {
	room := []string{"x", "y", "z"}
	l := []api.Op{{Kind: 3, Path: "a", Old: room[:1], New: room[:1]}, {Kind: 9, Old: room[:2]}, {Kind: 1, Path: "spare"}}
	b, _, _ := commute.Rows(nil, l[:2])
	_, a, _ := commute.Rows(l[:2], nil)
	spoil(b[:1:1])
	if !op.Same(a[0], l[0]) || !op.Same(b[1], l[1]) {
		t.Errorf("%v, %v", a, b)
	}
	spoil(b)
	spoil(a)
	if !slices.Equal(room, []string{"x", "y", "z"}) || l[0].Kind != 3 || l[1].Kind != 9 || l[2].Path != "spare" {
		t.Errorf("%q, %v", room, l)
	}
}
