package tree_test

import (
	"crypto/sha256"
	"encoding/binary"
	"encoding/hex"
	"fmt"
	"maps"
	"math/rand"
	"slices"
	"strconv"
	"strings"
	"testing"

	"quitclaim/api"
	"quitclaim/diff"
	"quitclaim/hunk"
	"quitclaim/op"
	"quitclaim/tree"
)

// deep is a path of as many parts and bytes as may be.
var deep = strings.Repeat(strings.Repeat("b", 11)+"/", 15) + strings.Repeat("c", 20)

// brief is the beginning of a value's text.
func brief(v any) string {
	s := fmt.Sprint(v)
	return s[:min(len(s), 300)]
}

// many is a row of so many lines, no two alike, that begin with a text.
func many(text string, n int) []string {
	l := make([]string, n)
	for i := range l {
		l[i] = text + strconv.Itoa(i)
	}
	return l
}

// files are what a tree has, by paths, held against it.
type files map[string][]string

// covers tells whether a path covers another one.
func covers(a, b string) bool { return a == b || strings.HasPrefix(b, a+"/") }

// way tells what stands in the way of a file more, by the words.
func (f files) way(s string) api.Errno {
	if _, ok := f[s]; ok {
		return api.ErrSame
	}
	for p := range f {
		if covers(p, s) || covers(s, p) {
			return api.ErrClash
		}
	}
	return api.OK
}

// does is files with an operation, by the words.
func (f files) does(o api.Op) (files, api.Errno) {
	if e := op.Right(o); e != api.OK {
		return nil, e
	}
	l, there := f[o.Path]
	if o.Kind >= 2 && o.Kind <= 4 && !there {
		return nil, api.ErrNone
	}
	g, e := maps.Clone(f), api.OK
	switch o.Kind {
	case 1:
		if e = g.way(o.Path); e == api.OK && len(f) >= 200 {
			e = api.ErrFull
		}
		g[o.Path] = nil
	case 2:
		if !slices.Equal(l, o.Old) {
			e = api.ErrClash
		}
		delete(g, o.Path)
	case 3:
		g[o.Path], e = hunk.Apply(l, hunk.Hunk{At: o.At, Old: o.Old, New: o.New})
	case 4:
		delete(g, o.Path)
		e = g.way(o.To)
		g[o.To] = l
	}
	if e != api.OK {
		return nil, e
	}
	return g, api.OK
}

// paths are those of files, in the order of bytes.
func (f files) paths() []string { return slices.Sorted(maps.Keys(f)) }

// row is files as a row, by paths.
func (f files) row() []tree.File {
	var l []tree.File
	for _, p := range f.paths() {
		l = append(l, tree.File{Path: p, Lines: f[p]})
	}
	return l
}

// tree is the tree of files.
func (f files) tree(t *testing.T) tree.Tree {
	t.Helper()
	l := f.row()
	// They are handed in from the last one on, so that their order is the tree's own.
	slices.Reverse(l)
	x, e := tree.From(l)
	if e != api.OK {
		t.Fatalf("%s: %d", brief(f), e)
	}
	return x
}

// one tells whether two files are.
func one(a, b tree.File) bool { return a.Path == b.Path && slices.Equal(a.Lines, b.Lines) }

// has tells whether a tree has just these files.
func has(x tree.Tree, f files) bool {
	return x.Len() == len(f) && slices.EqualFunc(x.Files(), f.row(), one)
}

// places are paths of which some cover others, and some stand between these in the order of bytes.
var places = []string{"a", "a/b", "a/b/c", "a-", "a.b/c", "a0", "b"}

// small are all trees' files at some paths, each file with one of some rows of lines.
func small(paths []string, rows ...[]string) []files {
	all := []files{{}}
	for _, p := range paths {
		for _, f := range slices.Clone(all) {
			if f.way(p) != api.OK {
				continue
			}
			for _, l := range rows {
				g := maps.Clone(f)
				g[p] = l
				all = append(all, g)
			}
		}
	}
	return all
}

// ops are operations of all kinds, at those paths and others, wrong ones among them.
func ops() []api.Op {
	l := []api.Op{{}, {Kind: 7, Path: "a"}, {Kind: 1}, {Kind: 1, Path: "A"}, {Kind: 1, Path: "a/"}, {Kind: 1, Path: "q", Old: []string{"x"}}, {Kind: 5, Depth: 9}, {Kind: 5, Path: "/"}, {Kind: 5, Path: "a", Depth: 8}, {Kind: 5}, {Kind: 6}, {Kind: 6, Path: "q/r", Key: api.Id{1}}}
	paths := append([]string{"a/b/c/d", "a/c", "a.b", "a-/a", "b/b", "c", deep}, places...)
	for _, p := range paths {
		l = append(l, api.Op{Kind: 1, Path: p}, api.Op{Kind: 2, Path: p}, api.Op{Kind: 2, Path: p, Old: []string{"x"}}, api.Op{Kind: 2, Path: p, Old: []string{"x", "y"}}, api.Op{Kind: 2, Path: p, Old: []string{"y", "x"}}, api.Op{Kind: 2, Path: p, Old: []string{"\n"}})
		for at := range 4 {
			l = append(l, api.Op{Kind: 3, Path: p, At: at, New: []string{"z"}}, api.Op{Kind: 3, Path: p, At: at, Old: []string{"x"}}, api.Op{Kind: 3, Path: p, At: at, Old: []string{"y"}, New: []string{"x", "", "y"}}, api.Op{Kind: 3, Path: p, At: at})
		}
		l = append(l, api.Op{Kind: 3, Path: p, Old: []string{"x", "y"}, New: []string{"y", "x"}}, api.Op{Kind: 3, Path: p, At: 1001, New: []string{"z"}}, api.Op{Kind: 3, Path: p, At: 1000, New: []string{"z"}})
		for _, to := range append(paths, "", "..") {
			l = append(l, api.Op{Kind: 4, Path: p, To: to})
		}
	}
	return l
}

// P14.1.
func TestZero(t *testing.T) {
	var x tree.Tree
	if x.Len() != 0 || len(x.Files()) != 0 || len(x.Below("")) != 0 {
		t.Error(x.Files(), x.Below(""))
	}
	for _, s := range []string{"", "a", "/"} {
		if l, ok := x.Get(s); ok || len(l) != 0 {
			t.Errorf("%q: %q", s, l)
		}
	}
	for _, l := range [][]tree.File{nil, {}} {
		if y, e := tree.From(l); e != api.OK || y.Len() != 0 || !tree.Same(x, y) || !tree.Same(y, x) || y.Sum() != x.Sum() {
			t.Error(y, e)
		}
	}
	if l := tree.Steps(x, x); len(l) != 0 {
		t.Error(l)
	}
}

// P14.1, P14.2, P14.3. All operations on all small trees, held against the words; what was applied is undone.
func TestApply(t *testing.T) {
	seen := map[api.Errno]int{}
	all := ops()
	for _, f := range small(places, nil, []string{"x", "y"}) {
		x := f.tree(t)
		for _, o := range all {
			want, wrong := f.does(o)
			y, e := x.Apply(o)
			if e != wrong || !has(y, want) {
				t.Fatalf("%s on %s: %s, %d, not %s, %d", brief(o), brief(f), brief(y.Files()), e, brief(want), wrong)
			}
			if seen[e]++; e == api.OK {
				undone(t, x, y, o)
			}
		}
		if !has(x, f) {
			t.Fatalf("%s became %s", brief(f), brief(x.Files()))
		}
	}
	for _, e := range []api.Errno{api.OK, api.ErrArg, api.ErrForm, api.ErrRange, api.ErrNone, api.ErrSame, api.ErrClash} {
		if seen[e] == 0 {
			t.Errorf("error %d was never told", e)
		}
	}
}

// undone looks whether an operation's Inverse makes of a tree behind it the one ahead.
func undone(t *testing.T, x, y tree.Tree, o api.Op) {
	t.Helper()
	back, e := op.Inverse(o)
	if op.Policy(o) {
		if !tree.Same(x, y) {
			t.Fatalf("%s changes a tree", brief(o))
		}
		return
	}
	z, n, f := y.All(back)
	if e != api.OK || f != api.OK || n != len(back) || !tree.Same(z, x) || z.Sum() != x.Sum() {
		t.Fatalf("%s, undone by %s: %d, %d, %d", brief(o), brief(back), e, f, n)
	}
	if tree.Same(x, y) != (o.Kind == 3 && slices.Equal(o.Old, o.New)) {
		t.Fatalf("%s does nothing", brief(o))
	}
}

// P14.1. Which error is ahead of which.
func TestApplyOrder(t *testing.T) {
	f := files{"a": {"x"}, "d/e": nil, "z": many("l", 1000)}
	for _, x := range []struct {
		o    api.Op
		want api.Errno
	}{
		{api.Op{Kind: 1, Path: "a"}, api.ErrSame}, {api.Op{Kind: 1, Path: "a", Depth: 1}, api.ErrForm}, {api.Op{Kind: 1, Path: "a/b"}, api.ErrClash}, {api.Op{Kind: 1, Path: "a/b/c/d"}, api.ErrClash}, {api.Op{Kind: 1, Path: "d"}, api.ErrClash}, {api.Op{Kind: 1, Path: "d/e/f"}, api.ErrClash}, {api.Op{Kind: 1, Path: "d/e"}, api.ErrSame}, {api.Op{Kind: 1, Path: "d/f"}, api.OK}, {api.Op{Kind: 1, Path: "aa"}, api.OK}, {api.Op{Kind: 1, Path: "d/e."}, api.OK},
		{api.Op{Kind: 2, Path: "q"}, api.ErrNone}, {api.Op{Kind: 2, Path: "q", Old: []string{"y"}}, api.ErrNone}, {api.Op{Kind: 2, Path: "q", New: []string{"y"}}, api.ErrForm}, {api.Op{Kind: 2, Path: "d"}, api.ErrNone}, {api.Op{Kind: 2, Path: "a"}, api.ErrClash}, {api.Op{Kind: 2, Path: "a", Old: []string{"x", "x"}}, api.ErrClash}, {api.Op{Kind: 2, Path: "a", Old: []string{"y"}}, api.ErrClash}, {api.Op{Kind: 2, Path: "a", Old: []string{"x"}}, api.OK}, {api.Op{Kind: 2, Path: "d/e", Old: []string{""}}, api.ErrClash}, {api.Op{Kind: 2, Path: "d/e"}, api.OK},
		{api.Op{Kind: 3, Path: "q", At: 9, New: []string{"y"}}, api.ErrNone}, {api.Op{Kind: 3, Path: "q"}, api.ErrForm}, {api.Op{Kind: 3, Path: "a", At: 2, Old: []string{"y"}}, api.ErrRange}, {api.Op{Kind: 3, Path: "a", At: 1, Old: []string{"x"}}, api.ErrClash}, {api.Op{Kind: 3, Path: "a", Old: []string{"y"}}, api.ErrClash}, {api.Op{Kind: 3, Path: "a", At: 1, New: []string{"y"}}, api.OK},
		{api.Op{Kind: 3, Path: "z", New: []string{"y"}}, api.ErrLong}, {api.Op{Kind: 3, Path: "z", Old: []string{"y"}, New: []string{"y", "z"}}, api.ErrClash}, {api.Op{Kind: 3, Path: "z", Old: []string{"l0"}, New: []string{"y", "z"}}, api.ErrLong}, {api.Op{Kind: 3, Path: "z", Old: []string{"l0"}, New: []string{"y"}}, api.OK}, {api.Op{Kind: 3, Path: "a", At: 1, New: many("m", 1000)}, api.ErrLong}, {api.Op{Kind: 3, Path: "a", At: 1, New: many("m", 999)}, api.OK},
		{api.Op{Kind: 4, Path: "q", To: "a"}, api.ErrNone}, {api.Op{Kind: 4, Path: "q", To: "q"}, api.ErrForm}, {api.Op{Kind: 4, Path: "a", To: "a"}, api.ErrForm}, {api.Op{Kind: 4, Path: "a", To: "z"}, api.ErrSame}, {api.Op{Kind: 4, Path: "a", To: "z/y"}, api.ErrClash}, {api.Op{Kind: 4, Path: "a", To: "d"}, api.ErrClash}, {api.Op{Kind: 4, Path: "a", To: "a/b"}, api.OK}, {api.Op{Kind: 4, Path: "d/e", To: "d"}, api.OK}, {api.Op{Kind: 4, Path: "d/e", To: "d/e/f"}, api.OK}, {api.Op{Kind: 4, Path: "d/e", To: "a/e"}, api.ErrClash},
		{api.Op{Kind: 5, Path: "q", Depth: 9}, api.ErrRange}, {api.Op{Kind: 5, Path: "a/b"}, api.OK}, {api.Op{Kind: 6, Path: "a/b"}, api.OK}, {api.Op{Kind: 0, Path: "a"}, api.ErrArg},
	} {
		y, e := f.tree(t).Apply(x.o)
		want, _ := f.does(x.o)
		if e != x.want || !has(y, want) {
			t.Errorf("%s: %d, not %d", brief(x.o), e, x.want)
		}
	}
}

// full are as many files as may be.
func full() files {
	f := files{}
	for i := range 200 {
		f["d/"+strconv.Itoa(i)] = []string{strconv.Itoa(i)}
	}
	return f
}

// P14.1, P14.2. As many files as may be: there is room for none more, but they may be moved, edited and removed.
func TestFull(t *testing.T) {
	f := full()
	for _, o := range []api.Op{
		{Kind: 1, Path: "e"}, {Kind: 1, Path: "d/7"}, {Kind: 1, Path: "d"}, {Kind: 1, Path: "d/7/e"}, {Kind: 1, Path: "d/200"}, {Kind: 2, Path: "d/7", Old: []string{"7"}}, {Kind: 3, Path: "d/7", Old: []string{"7"}}, {Kind: 4, Path: "d/7", To: "e"}, {Kind: 4, Path: "d/7", To: "d/7/e"}, {Kind: 4, Path: "d/7", To: "d/8"}, {Kind: 5, Path: "e"},
	} {
		want, wrong := f.does(o)
		y, e := f.tree(t).Apply(o)
		if e != wrong || !has(y, want) {
			t.Errorf("%s: %d, not %d", brief(o), e, wrong)
		}
		if e == api.OK {
			undone(t, f.tree(t), y, o)
		}
	}
	for o, want := range map[string]api.Errno{"e": api.ErrFull, "d/200": api.ErrFull, "d/7": api.ErrSame, "d": api.ErrClash, "d/7/e": api.ErrClash} {
		if _, e := f.tree(t).Apply(api.Op{Kind: 1, Path: o}); e != want {
			t.Errorf("create %s: %d, not %d", o, e, want)
		}
	}
	delete(f, "d/7")
	y, e := f.tree(t).Apply(api.Op{Kind: 1, Path: "e"})
	if e != api.OK || y.Len() != 200 {
		t.Error(y.Len(), e)
	}
}

// P14.1. Rows of operations: all of them, or the tree as it was.
func TestAll(t *testing.T) {
	r := rand.New(rand.NewSource(14))
	all := ops()
	seen := map[int]int{}
	for _, f := range small(places, []string{"x", "y"}) {
		x := f.tree(t)
		for range 300 {
			l := make([]api.Op, r.Intn(5))
			for i := range l {
				l[i] = all[r.Intn(len(all))]
			}
			want, n, wrong := f, len(l), api.OK
			for i, o := range l {
				var e api.Errno
				if want, e = want.does(o); e != api.OK {
					want, n, wrong = f, i, e
					break
				}
			}
			y, m, e := x.All(l)
			if m != n || e != wrong || !has(y, want) || !has(x, f) {
				t.Fatalf("%s on %s: %s, %d, %d, not %s, %d, %d", brief(l), brief(f), brief(y.Files()), m, e, brief(want), n, wrong)
			}
			if e != api.OK {
				seen[m]++
			}
		}
	}
	if seen[0] == 0 || seen[1] == 0 || seen[2] == 0 {
		t.Error(seen)
	}
}

// P14.1. No operations, the example, and an error behind others.
func TestAllEdges(t *testing.T) {
	x := files{"q": {"x"}}.tree(t)
	for _, l := range [][]api.Op{nil, {}} {
		if y, n, e := x.All(l); n != 0 || e != api.OK || !tree.Same(x, y) {
			t.Error(y, n, e)
		}
	}
	create, edit := api.Op{Kind: 1, Path: "a"}, api.Op{Kind: 3, Path: "a", New: []string{"x"}}
	y, n, e := tree.Tree{}.All([]api.Op{create, edit})
	if l, ok := y.Get("a"); n != 2 || e != api.OK || y.Len() != 1 || !ok || len(l) != 1 || l[0] != "x" {
		t.Error(y, n, e)
	}
	if y, n, e = x.All([]api.Op{create, edit, create, {}}); n != 2 || e != api.ErrSame || !has(y, files{"q": {"x"}}) {
		t.Error(y, n, e)
	}
	long := slices.Repeat([]api.Op{create, {Kind: 2, Path: "a"}}, 500)
	if y, n, e = x.All(append(long, edit)); n != 1000 || e != api.ErrNone || !tree.Same(x, y) {
		t.Error(n, e)
	}
}

// sumOf is files' sum, worked out by the words.
func sumOf(f files) api.Id {
	b := []byte("\x04tree")
	for _, p := range f.paths() {
		text := ""
		for _, s := range f[p] {
			text += s + "\n"
		}
		for _, part := range []string{p, text} {
			b = binary.BigEndian.AppendUint64(b, uint64(len(part)))
			b = append(b, part...)
		}
	}
	return sha256.Sum256(b)
}

// P14.1. Sums, worked out anew from their bytes; of unlike trees they are unlike.
func TestSum(t *testing.T) {
	known := map[api.Id]files{}
	for _, f := range append(small(places, nil, []string{"x", "y"}, []string{"x\x00y"}, []string{""}), full(), files{deep: many("x", 1000)}, files{"a": slices.Repeat([]string{strings.Repeat("\xff", 200)}, 1000)}) {
		sum := f.tree(t).Sum()
		if sum != sumOf(f) {
			t.Fatalf("%s: %x", brief(f), sum)
		}
		if other, ok := known[sum]; ok {
			t.Fatalf("%s, %s: %x", brief(f), brief(other), sum)
		}
		known[sum] = f
	}
	if sum := (tree.Tree{}).Sum(); sum != sumOf(nil) || hex.EncodeToString(sum[:4]) != "337fc3bc" {
		t.Errorf("%x", sum)
	}
}

// P14.1.
func TestFilesAndGet(t *testing.T) {
	others := []string{"", "/", "a/", "A", "a/b/", "z", "a/b/c/d", "a\x00", deep + "c"}
	for _, f := range append(small(places, nil, []string{"x"}), full(), files{deep: {""}}) {
		x := f.tree(t)
		if !has(x, f) {
			t.Fatalf("%s: %s", brief(f), brief(x.Files()))
		}
		for p, want := range f {
			if l, ok := x.Get(p); !ok || !slices.Equal(l, want) {
				t.Fatalf("%s of %s: %q, %v", p, brief(f), l, ok)
			}
		}
		for _, p := range append(others, places...) {
			want, there := f[p]
			if l, ok := x.Get(p); ok != there || !slices.Equal(l, want) {
				t.Fatalf("%s of %s: %q, %v", p, brief(f), l, ok)
			}
		}
	}
}

// P14.1. Of prefixes that are paths, of the empty one, and of texts that are none.
func TestBelow(t *testing.T) {
	for _, f := range append(small(append([]string{"a.b/d", "a.b/c0"}, places...), []string{"x"}), full(), files{deep: nil}) {
		x := f.tree(t)
		for _, prefix := range append([]string{"", "/", "a/", "a.", "a.b", "A", "d", "d/1", "d/19", ".", "..", "a.b/", deep, deep + "c", deep[:11], deep[:12], "z"}, places...) {
			var want []string
			for _, p := range f.paths() {
				if prefix == "" || covers(prefix, p) {
					want = append(want, p)
				}
			}
			if l := x.Below(prefix); !slices.Equal(l, want) {
				t.Fatalf("%q of %s: %q, not %q", prefix, brief(f), l, want)
			}
		}
	}
}

// fromOf is the files of a row, by the words, file by file.
func fromOf(l []tree.File) (files, api.Errno) {
	f := files{}
	for _, one := range l {
		wrong := one.Path == "" || len(one.Path) > 200 || strings.ContainsAny(one.Path, "AZ") || strings.HasSuffix(one.Path, "/") || len(one.Lines) > 1000
		for _, s := range one.Lines {
			wrong = wrong || len(s) > 200 || strings.Contains(s, "\n")
		}
		if wrong {
			return nil, api.ErrForm
		}
		if e := f.way(one.Path); e != api.OK {
			return nil, e
		}
		f[one.Path] = one.Lines
	}
	if len(l) > 200 {
		return nil, api.ErrFull
	}
	return f, api.OK
}

// P14.1. All short rows of files, right ones and wrong ones, in any order.
func TestFrom(t *testing.T) {
	var some []tree.File
	for i, p := range append(places, "", "A", "a/b/", deep+"c", "a/b/c/d", deep) {
		some = append(some, tree.File{Path: p, Lines: many("x", i%3)})
	}
	some = append(some, tree.File{Path: "a", Lines: []string{"x", "\n"}}, tree.File{Path: "c", Lines: []string{strings.Repeat("x", 201)}}, tree.File{Path: "c", Lines: make([]string, 1001)}, tree.File{Path: "c", Lines: make([]string, 1000)}, tree.File{Path: "a", Lines: []string{"y", strings.Repeat("y", 200)}})
	rows, row := [][]tree.File{nil}, [][]tree.File{nil}
	for range 3 {
		var next [][]tree.File
		for _, l := range row {
			for _, one := range some {
				next = append(next, append(slices.Clone(l), one))
			}
		}
		rows, row = append(rows, next...), next
	}
	seen := map[api.Errno]int{}
	for _, l := range rows {
		want, wrong := fromOf(l)
		x, e := tree.From(l)
		if e != wrong || !has(x, want) {
			t.Fatalf("%s: %d, not %d", brief(l), e, wrong)
		}
		seen[e]++
	}
	if seen[api.OK] == 0 || seen[api.ErrForm] == 0 || seen[api.ErrSame] == 0 || seen[api.ErrClash] == 0 {
		t.Error(seen)
	}
}

// P14.1. ErrFull is behind all that is wrong with any of the files.
func TestFromFull(t *testing.T) {
	l := full().row()
	if x, e := tree.From(l); e != api.OK || !has(x, full()) {
		t.Fatal(x.Len(), e)
	}
	for _, x := range []struct {
		more []tree.File
		want api.Errno
	}{
		{[]tree.File{{Path: "e"}}, api.ErrFull}, {[]tree.File{{Path: "e"}, {Path: "f"}}, api.ErrFull}, {[]tree.File{{Path: "e"}, {Path: ""}}, api.ErrForm}, {[]tree.File{{Path: "e"}, {Path: "f", Lines: []string{"\n"}}}, api.ErrForm}, {[]tree.File{{Path: "e"}, {Path: "e"}}, api.ErrSame}, {[]tree.File{{Path: "d/7"}}, api.ErrSame},
		{[]tree.File{{Path: "d"}}, api.ErrClash}, {[]tree.File{{Path: "e"}, {Path: "d/7/e"}, {Path: ""}}, api.ErrClash}, {[]tree.File{{Path: "e/f"}, {Path: "e"}, {Path: "e"}}, api.ErrClash}, {[]tree.File{{Path: "e"}, {Path: "e"}, {Path: "/"}}, api.ErrSame}, {[]tree.File{{Path: "/"}, {Path: "e"}, {Path: "e"}}, api.ErrForm},
	} {
		if y, e := tree.From(append(slices.Clone(l), x.more...)); e != x.want || y.Len() != 0 {
			t.Errorf("%s: %d, not %d", brief(x.more), e, x.want)
		}
	}
	great := make([]tree.File, 1<<17)
	for i := range great {
		great[i].Path = "d/" + strconv.Itoa(len(great)-i)
	}
	if y, e := tree.From(great); e != api.ErrFull || y.Len() != 0 {
		t.Error(e)
	}
	if y, e := tree.From(append(great, tree.File{Path: "d/9/e"})); e != api.ErrClash || y.Len() != 0 {
		t.Error(e)
	}
}

// P14.1. A tree hangs on its files, not on the order in which they came, nor on how it was made.
func TestFromOrder(t *testing.T) {
	f := files{"a-": {"x"}, "a/b": {"y", "z"}, "a0": nil, "b": {""}}
	want := f.tree(t)
	l := f.row()
	r := rand.New(rand.NewSource(15))
	for range 100 {
		r.Shuffle(len(l), func(i, j int) { l[i], l[j] = l[j], l[i] })
		x, e := tree.From(l)
		if e != api.OK || !tree.Same(x, want) || x.Sum() != want.Sum() || !has(x, f) {
			t.Fatalf("%s: %s, %d", brief(l), brief(x.Files()), e)
		}
		y := tree.Tree{}
		for _, one := range l {
			y, _ = y.Apply(api.Op{Kind: 1, Path: one.Path})
			if len(one.Lines) > 0 {
				y, _ = y.Apply(api.Op{Kind: 3, Path: one.Path, New: one.Lines})
			}
		}
		if !tree.Same(y, want) || y.Sum() != want.Sum() || !has(y, f) {
			t.Fatalf("%s: %s", brief(l), brief(y.Files()))
		}
	}
}

// P14.1. Of all pairs of small trees.
func TestSame(t *testing.T) {
	l := append(small(places[:4], nil, []string{"x"}, []string{"y"}, []string{"x", "y"}), full(), files{"a": {}}, files{"a": {""}}, files{"a": {"xy"}}, files{"a": {"y", "x"}})
	trees := make([]tree.Tree, len(l))
	for i, f := range l {
		trees[i] = f.tree(t)
	}
	for i, f := range l {
		for j, g := range l {
			if want := maps.EqualFunc(f, g, slices.Equal); tree.Same(trees[i], trees[j]) != want {
				t.Fatalf("%s, %s: %v", brief(f), brief(g), !want)
			}
		}
	}
}

// stepsOf are operations from files to others, by the words.
func stepsOf(a, b files) []api.Op {
	var l []api.Op
	for _, p := range a.paths() {
		if _, ok := b[p]; !ok {
			l = append(l, api.Op{Kind: 2, Path: p, Old: a[p]})
		}
	}
	for _, p := range b.paths() {
		old, ok := a[p]
		if !ok {
			l = append(l, api.Op{Kind: 1, Path: p})
			if len(b[p]) > 0 {
				l = append(l, api.Op{Kind: 3, Path: p, New: b[p]})
			}
			continue
		}
		hunks, _ := diff.Of(old, b[p])
		for _, h := range hunks {
			l = append(l, api.Op{Kind: 3, Path: p, At: h.At, Old: h.Old, New: h.New})
		}
	}
	return l
}

// steps looks at the steps from files to others.
func steps(t *testing.T, a, b files) {
	t.Helper()
	x, y := a.tree(t), b.tree(t)
	l := tree.Steps(x, y)
	if want := stepsOf(a, b); !slices.EqualFunc(l, want, op.Same) {
		t.Fatalf("%s, %s: %s, not %s", brief(a), brief(b), brief(l), brief(want))
	}
	z, n, e := x.All(l)
	if e != api.OK || n != len(l) || !tree.Same(z, y) || !has(x, a) || !has(y, b) {
		t.Fatalf("%s, %s: %s make %s, %d, %d", brief(a), brief(b), brief(l), brief(z.Files()), n, e)
	}
}

// P14.1. From each small tree to each other one.
func TestSteps(t *testing.T) {
	l := small([]string{"b", "a", "a/b", "a-", "a/b/c"}, nil, []string{"x", "y", "z"}, []string{"y", "u", "z", "v"})
	for _, a := range l {
		for _, b := range l {
			steps(t, a, b)
		}
	}
}

// P14.1. Where as many files as may be go, and as many others come, each with more lines than there were, or fewer.
func TestStepsOfFullTrees(t *testing.T) {
	f, g := full(), files{}
	for i := range 200 {
		g["d/"+strconv.Itoa(100+i)] = many("l", i%7)
	}
	steps(t, f, g)
	steps(t, g, f)
	steps(t, f, files{"d": many("x", 1000)})
	steps(t, files{"d": many("x", 1000)}, f)
	steps(t, files{"a": many("x", 1000)}, files{"a": many("y", 1000)})
	steps(t, files{"a": many("x", 1000)}, files{"a": many("x", 999)})
}

// P14.1. The steps are the hunks that layer 12 tells, even where as many lines as may be leave no room for those that come first.
func TestStepsWithoutRoom(t *testing.T) {
	old := many("l", 1000)
	x, y := files{"a": old}.tree(t), files{"a": append([]string{"new"}, old[:999]...)}.tree(t)
	l := tree.Steps(x, y)
	if !slices.EqualFunc(l, []api.Op{{Kind: 3, Path: "a", New: []string{"new"}}, {Kind: 3, Path: "a", At: 1000, Old: old[999:]}}, op.Same) {
		t.Fatalf("%s", brief(l))
	}
	if z, n, e := x.All(l); n != 0 || e != api.ErrLong || !tree.Same(z, x) {
		t.Error(n, e)
	}
	if z, n, e := x.All([]api.Op{{Kind: 3, Path: "a", At: 999, Old: old[999:]}, l[0]}); n != 2 || e != api.OK || !tree.Same(z, y) {
		t.Error(n, e)
	}
}

// P14.2, P14.3. Trees that grow out of one another, in any order: each stays as it was made, and is undone step by step.
func TestNeverChanged(t *testing.T) {
	r := rand.New(rand.NewSource(16))
	all := ops()
	trees, kept := []tree.Tree{{}}, []files{{}}
	for range 40000 {
		i, o := r.Intn(len(trees)), all[r.Intn(len(all))]
		if r.Intn(2) == 0 {
			i = len(trees) - 1
		}
		y, e := trees[i].Apply(o)
		want, wrong := kept[i].does(o)
		if e != wrong {
			t.Fatalf("%s on %s: %d, not %d", brief(o), brief(kept[i]), e, wrong)
		}
		if e != api.OK || op.Policy(o) || len(trees) > 3000 {
			continue
		}
		undone(t, trees[i], y, o)
		trees, kept = append(trees, y), append(kept, want)
	}
	for i, x := range trees {
		if !has(x, kept[i]) {
			t.Fatalf("tree %d, of %s, is %s", i, brief(kept[i]), brief(x.Files()))
		}
	}
	if len(trees) < 1000 {
		t.Error(len(trees))
	}
}

// spoil changes a row, its spare room too.
func spoil(l []string) {
	for i := range l[:cap(l)] {
		l[:cap(l)][i] = "spoilt"
	}
}

// P14.1, P14.3. What is handed in is neither changed nor kept, its spare room neither.
func TestMemoryOfArguments(t *testing.T) {
	room := strings.Split("abcdefgh", "")
	l := append(make([]tree.File, 0, 8), tree.File{Path: "q", Lines: room[:3]}, tree.File{Path: "p", Lines: room[1:2]}, tree.File{Path: "r", Lines: room[:0]})
	spare := l[:cap(l)]
	x, e := tree.From(l)
	want := files{"p": {"b"}, "q": {"a", "b", "c"}, "r": nil}
	if e != api.OK || l[0].Path != "q" || l[1].Path != "p" || spare[3].Path != "" || strings.Join(room, "") != "abcdefgh" {
		t.Fatal(e, l, spare, room)
	}
	for i := range spare {
		spare[i] = tree.File{Path: "spoilt"}
	}
	row := slices.Clone(room)
	ops := append(make([]api.Op, 0, 4), api.Op{Kind: 3, Path: "q", At: 1, Old: row[1:3], New: row[3:5]}, api.Op{Kind: 2, Path: "p", Old: row[1:2]}, api.Op{Kind: 3, Path: "r", New: row[:2]})
	y, n, e := x.All(ops)
	if n != 3 || e != api.OK || strings.Join(row, "") != "abcdefgh" || ops[:4][3].Kind != 0 || ops[0].At != 1 || ops[1].Path != "p" {
		t.Fatal(n, e, row, ops)
	}
	tree.Steps(x, y)
	spoil(row)
	spoil(room)
	clear(ops)
	if !has(x, want) || !has(y, files{"q": {"a", "d", "e"}, "r": {"a", "b"}}) {
		t.Error(x.Files(), y.Files())
	}
}

// told are all rows of lines that calls tell of two trees.
func told(x, y tree.Tree) [][]string {
	var l [][]string
	for range 2 {
		for _, f := range append(x.Files(), y.Files()...) {
			l = append(l, f.Lines)
		}
		for _, p := range []string{"p", "q", "r"} {
			a, _ := x.Get(p)
			b, _ := y.Get(p)
			l = append(l, a, b)
		}
		for _, o := range append(append(tree.Steps(x, y), tree.Steps(y, x)...), tree.Steps(tree.Tree{}, x)...) {
			l = append(l, o.Old, o.New)
		}
		l = append(l, x.Below(""), y.Below(""))
	}
	return l
}

// P14.1, P14.3. What is told shares nothing, with a tree neither.
func TestMemoryOfAnswers(t *testing.T) {
	f, g := files{"p": {"a", "b", "c"}, "q": {"a"}}, files{"q": {"b", "a", "c"}, "r": {"d", "e"}}
	x, y := f.tree(t), g.tree(t)
	l := told(x, y)
	for i, row := range l {
		var kept [][]string
		for _, other := range l {
			kept = append(kept, slices.Clone(other))
		}
		spoil(row)
		for j, other := range l {
			if j != i && !slices.Equal(other, kept[j]) {
				t.Fatalf("row %d changes row %d", i, j)
			}
		}
	}
	if !has(x, f) || !has(y, g) {
		t.Fatal(x.Files(), y.Files())
	}
	files := x.Files()
	files = append(files[:1], tree.File{Path: "z"})
	files[0].Path = "y"
	if !has(x, f) {
		t.Error(x.Files())
	}
}

// P14.1. Lines are bytes of any kind.
func TestBytes(t *testing.T) {
	odd := []string{"", "\x00", "\xff", "\r", "\xc3\xa4", "a\x00", " ", strings.Repeat("\xfe", 200)}
	x, n, e := tree.Tree{}.All([]api.Op{{Kind: 1, Path: deep}, {Kind: 3, Path: deep, New: odd}})
	if l, ok := x.Get(deep); n != 2 || e != api.OK || !ok || !slices.Equal(l, odd) {
		t.Errorf("%q, %d, %d", l, n, e)
	}
	if sum := x.Sum(); sum != sumOf(files{deep: odd}) {
		t.Errorf("%x", sum)
	}
}
