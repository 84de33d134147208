package merge_test

import (
	"math/rand"
	"slices"
	"strconv"
	"strings"
	"testing"

	"quitclaim/api"
	"quitclaim/hunk"
	"quitclaim/merge"
	"quitclaim/tree"
)

// lines looks at one call of Lines, and tells how many conflicts there are.
func lines(t *testing.T, old, a, b []string) int {
	t.Helper()
	want, conflicts := mergeOf(t, old, a, b)
	wrong := api.OK
	if len(want) > 1000 {
		want, conflicts, wrong = nil, 0, api.ErrLong
	}
	l, n, e := merge.Lines(old, a, b)
	if !slices.Equal(l, want) || n != conflicts || e != wrong {
		t.Fatalf("%s, %s, %s: %s, %d, %d, not %s, %d, %d", brief(old), brief(a), brief(b), brief(l), n, e, brief(want), conflicts, wrong)
	}
	return n
}

// turned is merged lines with the sides of each conflict changed, where no other line is like those that stand around them.
func turned(l []string) []string {
	var out []string
	for len(l) > 0 {
		from := slices.Index(l, "<<<<<<<")
		if from < 0 {
			return append(out, l...)
		}
		mid, to := slices.Index(l, "======="), slices.Index(l, ">>>>>>>")
		out = slices.Concat(out, l[:from+1], l[mid+1:to], l[mid:mid+1], l[from+1:mid], l[to:to+1])
		l = l[to+1:]
	}
	return out
}

// sides looks at what P33.2 and P33.3 say of three rows of lines.
func sides(t *testing.T, old, a, b []string) {
	t.Helper()
	l, n, e := merge.Lines(old, a, b)
	m, k, f := merge.Lines(old, b, a)
	if n != k || e != f || !slices.Equal(turned(l), m) {
		t.Fatalf("%s, %s, %s: %s, %d, %d, and turned %s, %d, %d", brief(old), brief(a), brief(b), brief(l), n, e, brief(m), k, f)
	}
	same := slices.Equal(a, b)
	if (same || slices.Equal(old, b)) && (!slices.Equal(l, a) || n != 0 || e != api.OK) {
		t.Fatalf("%s, %s, %s: %s, %d, %d, not the first side", brief(old), brief(a), brief(b), brief(l), n, e)
	}
	if slices.Equal(old, a) && (!slices.Equal(l, b) || n != 0 || e != api.OK) {
		t.Fatalf("%s, %s, %s: %s, %d, %d, not the second side", brief(old), brief(a), brief(b), brief(l), n, e)
	}
}

// P33.1, P33.2, P33.3. All small rows.
func TestLinesSmall(t *testing.T) {
	seen := map[int]int{}
	for _, l := range [][][]string{rows([]string{"a", "b"}, 4), rows([]string{"a", "", "c"}, 3)} {
		for _, old := range l {
			for _, a := range l {
				for _, b := range l {
					seen[lines(t, old, a, b)]++
					sides(t, old, a, b)
				}
			}
		}
	}
	if seen[0] < 1000 || seen[1] < 1000 || seen[2] == 0 {
		t.Error(seen)
	}
}

// P33.1. Told one by one: lines are letters, those around a conflict < = >.
func TestLinesByHand(t *testing.T) {
	split := func(s string) []string {
		var l []string
		for _, c := range strings.Split(s, "") {
			switch c {
			case "<", "=", ">":
				c = strings.Repeat(c, 7)
			}
			l = append(l, c)
		}
		return l
	}
	for _, c := range []struct{ old, a, b, want string }{
		{"abc", "xbc", "aby", "xby"},      // apart
		{"abc", "xbc", "ayc", "<xb=ay>c"}, // one ends where the other one begins
		{"abc", "axc", "yzc", "<ax=yz>c"},
		{"abc", "bc", "axbc", "<=ax>bc"},    // dropped, and put in at its end
		{"abc", "xabc", "bc", "<xa=>bc"},    // put in at the beginning of what is dropped
		{"abc", "xabc", "yabc", "<x=y>abc"}, // put in at one place
		{"abc", "xabc", "xabc", "xabc"},
		{"abc", "xabc", "aybc", "xaybc"}, // put in at two places, a line between
		{"abc", "abcx", "abcy", "abc<x=y>"},
		{"abc", "ac", "ac", "ac"}, {"abc", "ac", "axc", "a<=x>c"}, {"abc", "", "", ""}, {"abc", "", "abc", ""}, {"abc", "", "xbc", "<=xbc>"},
		{"", "x", "", "x"}, {"", "", "y", "y"}, {"", "x", "y", "<x=y>"}, {"", "x", "x", "x"}, {"", "", "", ""},
		{"abcdef", "axcdyf", "abczef", "axc<dy=ze>f"}, {"abcdef", "xbcdey", "abzzef", "xbzzey"},
		{"abcde", "abxyde", "apqcde", "a<bxy=pqc>de"}, {"abcde", "xcy", "abzde", "<xcy=abzde>"},
		{"abcdefg", "xbcxefx", "abcdeyg", "xbcxe<fx=yg>"}, {"abcdefg", "axcxexg", "abyydyg", "a<xcxex=byydy>g"},
		{"abcdefg", "xbcdefg", "abcxefg", "xbcxefg"}, {"abcdefghi", "xbcdefghy", "zbcdefghi", "<x=z>bcdefghy"}, {"abcdefghi", "xbcdyfghi", "zbcdefghw", "<x=z>bcdyfghw"},
		{"a<b", "a<x", "y<b", "y<x"}, {"=", "<", ">", "<<=>>"},
	} {
		want := split(c.want)
		conflicts := 0
		if strings.Contains(c.want, "<") && !strings.Contains(c.old, "<") {
			conflicts = 1
		}
		l, n, e := merge.Lines(split(c.old), split(c.a), split(c.b))
		if !slices.Equal(l, want) || n != conflicts || e != api.OK {
			t.Errorf("%s, %s, %s: %s, %d, %d, not %s", c.old, c.a, c.b, brief(l), n, e, c.want)
		}
		lines(t, split(c.old), split(c.a), split(c.b))
	}
}

// P33.1. What stands around a conflict's sides.
func TestConflict(t *testing.T) {
	l, n, e := merge.Lines([]string{"a", "b", "c", "d", "e"}, []string{"a", "p", "c", "q", "e"}, []string{"a", "r", "s", "c", "e"})
	want := "a\n<<<<<<<\np\n=======\nr\ns\n>>>>>>>\nc\n<<<<<<<\nq\n=======\n>>>>>>>\ne\n"
	if hunk.Text(l) != want || n != 2 || e != api.OK {
		t.Errorf("%q, %d, %d", hunk.Text(l), n, e)
	}
}

// changed is lines, some of which are dropped, others put in.
func changed(r *rand.Rand, old []string, often int) []string {
	var l []string
	for _, s := range old {
		switch r.Intn(often) {
		case 0:
		case 1:
			l = append(l, s, "n"+strconv.Itoa(r.Intn(5)))
		case 2:
			l = append(l, "m"+strconv.Itoa(r.Intn(3)))
		default:
			l = append(l, s)
		}
	}
	return l
}

// P33.1, P33.2, P33.3. Longer rows, with few and many changes, and lines that come again.
func TestLinesLong(t *testing.T) {
	r := rand.New(rand.NewSource(33))
	seen := map[int]int{}
	for i := range 3000 {
		old := many("l", r.Intn(60))
		for range r.Intn(20) {
			if len(old) > 0 {
				old[r.Intn(len(old))] = "again"
			}
		}
		often := 4 + r.Intn(30)
		a, b := changed(r, old, often), changed(r, old, often)
		if i%5 == 0 {
			b = changed(r, a, often)
		}
		seen[lines(t, old, a, b)]++
		sides(t, old, a, b)
	}
	if seen[0] == 0 || seen[1] == 0 || seen[2] == 0 || seen[5] == 0 {
		t.Error(seen)
	}
}

// P33.1. Groups of very many stretches, each of which touches the next one alone.
func TestLongGroup(t *testing.T) {
	old := many("l", 1000)
	a, b := slices.Clone(old), slices.Clone(old)
	for i := 0; i < 996; i += 2 {
		a[i], b[i+1] = "x", "y"
	}
	if l, n, e := merge.Lines(old, a, b); l != nil || n != 0 || e != api.ErrLong {
		t.Error(len(l), n, e)
	}
	old, a, b = old[:400], a[:400], b[:400]
	if n := lines(t, old, a, b); n != 1 {
		t.Error(n)
	}
	b[101] = old[101]
	if n := lines(t, old, a, b); n != 2 {
		t.Error(n)
	}
	sides(t, old, a, b)
}

// P33.1. Lines that aren't right, in each place, ahead of what would be too many.
func TestLinesWrong(t *testing.T) {
	long := many("x", 1000)
	for i, wrong := range [][]string{{"\n"}, {"a", "b\n"}, {"a\nb"}, {strings.Repeat("x", 201)}, many("l", 1001), append(many("l", 999), "", "")} {
		for _, c := range [][3][]string{{wrong, nil, nil}, {nil, wrong, nil}, {nil, nil, wrong}, {wrong, wrong, wrong}, {nil, wrong, wrong}, {wrong, long, many("y", 1000)}, {nil, wrong, long}, {nil, long, wrong}} {
			if l, n, e := merge.Lines(c[0], c[1], c[2]); l != nil || n != 0 || e != api.ErrForm {
				t.Errorf("%d: %s, %d, %d", i, brief(l), n, e)
			}
		}
	}
	edge := append(many("l", 998), strings.Repeat("x", 200), "\r\x00\xff")
	for _, c := range [][3][]string{{edge, edge, edge}, {edge, nil, edge}, {nil, edge, nil}, {nil, edge, edge}, {edge, edge[1:], edge[:990]}} {
		if n := lines(t, c[0], c[1], c[2]); n != 0 {
			t.Error(n)
		}
	}
}

// P33.1. As many lines as may be, and one more: of stretches that are apart, and of a conflict.
func TestLinesTooMany(t *testing.T) {
	for _, c := range []struct {
		old, a, b, conflicts int
		e                    api.Errno
	}{
		{500, 250, 250, 0, api.OK}, {500, 250, 251, 0, api.ErrLong}, {500, 251, 250, 0, api.ErrLong}, {500, 500, 0, 0, api.OK}, {500, 499, 1, 0, api.OK}, {500, 499, 2, 0, api.ErrLong}, {998, 1, 1, 0, api.OK}, {999, 1, 1, 0, api.ErrLong}, {2, 499, 499, 0, api.OK}, {2, 998, 998, 0, api.ErrLong},
	} {
		old := many("l", c.old)
		l, n, e := merge.Lines(old, append(many("x", c.a), old...), append(slices.Clone(old), many("y", c.b)...))
		if e != c.e || n != 0 || e == api.OK && !slices.Equal(l, slices.Concat(many("x", c.a), old, many("y", c.b))) || e != api.OK && l != nil {
			t.Errorf("%v: %d, %d, %d", c, len(l), n, e)
		}
	}
	for _, c := range []struct {
		old, a, b int
		e         api.Errno
	}{
		{0, 500, 497, api.OK}, {0, 500, 498, api.ErrLong}, {0, 1000, 1000, api.ErrLong}, {995, 1, 1, api.OK}, {996, 1, 1, api.ErrLong}, {990, 5, 2, api.OK}, {990, 2, 6, api.ErrLong}, {0, 996, 1, api.OK}, {0, 996, 2, api.ErrLong}, {999, 1, 1, api.ErrLong},
	} {
		old := many("l", c.old)
		a, b := append(many("x", c.a), old...), append(many("y", c.b), old...)
		l, n, e := merge.Lines(old, a, b)
		want := slices.Concat([]string{"<<<<<<<"}, many("x", c.a), []string{"======="}, many("y", c.b), []string{">>>>>>>"}, old)
		if e != c.e || e == api.OK && (n != 1 || !slices.Equal(l, want)) || e != api.OK && (n != 0 || l != nil) {
			t.Errorf("%v: %d, %d, %d", c, len(l), n, e)
		}
	}
	// Two conflicts, the last of which is too much; and what the sides drop makes room for it.
	old := many("l", 985)
	a, b := slices.Clone(old), slices.Clone(old)
	a[0], b[0], a[900], b[900] = "x", "y", "x", "y"
	for range 3 {
		lines(t, old, a, b)
		old, a, b = append(old, "end"), append(a, "end"), append(b, "end")
	}
	for more := range 12 {
		old := many("l", 1000)
		a := append([]string{"x"}, old[1:994-more]...)
		b := append([]string{"y"}, old[1:]...)
		lines(t, old, a, b)
	}
}

// trees looks at one call of Trees.
func trees(t *testing.T, old, a, b files) ([]string, api.Errno) {
	t.Helper()
	want, conflicts := treesOf(t, old, a, b)
	wrong := want.wrong()
	if wrong != api.OK {
		want, conflicts = nil, nil
	}
	x, l, e := merge.Trees(old.tree(t), a.tree(t), b.tree(t))
	if !want.has(x) || !slices.Equal(l, conflicts) || e != wrong {
		t.Fatalf("%s, %s, %s: %s, %s, %d, not %s, %s, %d", brief(old), brief(a), brief(b), brief(x.Files()), brief(l), e, brief(want), brief(conflicts), wrong)
	}
	turn(t, old, a, b, x, l, e)
	return l, e
}

// turn looks at what P33.2 and P33.3 say of three trees, and of what was told of them.
func turn(t *testing.T, old, a, b files, x tree.Tree, l []string, e api.Errno) {
	t.Helper()
	y, m, f := merge.Trees(old.tree(t), b.tree(t), a.tree(t))
	if !slices.Equal(l, m) || e != f || !slices.Equal(x.Below(""), y.Below("")) {
		t.Fatalf("%s, %s, %s: %s, %d, and turned %s, %d", brief(old), brief(a), brief(b), brief(l), e, brief(m), f)
	}
	for _, file := range x.Files() {
		if other, _ := y.Get(file.Path); !slices.Equal(turned(file.Lines), other) {
			t.Fatalf("%s: %s, and turned %s", file.Path, brief(file.Lines), brief(other))
		}
	}
	first, second, before := a.tree(t), b.tree(t), old.tree(t)
	if (tree.Same(first, second) || tree.Same(before, second)) && (!tree.Same(x, first) || len(l) != 0 || e != api.OK) {
		t.Fatalf("%s, %s, %s: not the first side", brief(old), brief(a), brief(b))
	}
	if tree.Same(before, first) && (!tree.Same(x, second) || len(l) != 0 || e != api.OK) {
		t.Fatalf("%s, %s, %s: not the second side", brief(old), brief(a), brief(b))
	}
}

// small are all files at some paths, each without, or with one of some rows of lines; none covers another one.
func small(paths []string, choice ...[]string) []files {
	all := []files{{}}
	for _, s := range paths {
		for _, f := range slices.Clone(all) {
			for _, l := range choice {
				g := files{s: l}
				for p, other := range f {
					g[p] = other
				}
				if g.wrong() == api.OK {
					all = append(all, g)
				}
			}
		}
	}
	return all
}

// P33.1, P33.2, P33.3. All small trees of one file, and of files that can't stand together.
func TestTreesSmall(t *testing.T) {
	seen := map[api.Errno]int{}
	for _, l := range [][]files{
		small([]string{"a"}, nil, []string{""}, []string{"x"}, []string{"y"}, []string{"x", "y"}, []string{"x", "z", "y"}, []string{"x", "z", "y", "u"}, []string{"w", "z", "y"}),
		small([]string{"a", "a/b", "a-"}, nil, []string{"x"}), small([]string{"b/c", "b", "b/c/d"}, nil, []string{"x"}), small([]string{"a", "b"}, nil, []string{"x"}, []string{"y", "x"}),
	} {
		for _, old := range l {
			for _, a := range l {
				for _, b := range l {
					_, e := trees(t, old, a, b)
					seen[e]++
				}
			}
		}
	}
	if seen[api.OK] == 0 || seen[api.ErrClash] == 0 || len(seen) != 2 {
		t.Error(seen)
	}
}

// P33.1. Told one by one.
func TestTreesByHand(t *testing.T) {
	x, y, z := []string{"x"}, []string{"y"}, []string{"z"}
	for i, c := range []struct {
		old, a, b, want files
		conflicts       []string
	}{
		{files{}, files{}, files{}, files{}, nil},
		{files{"a": x}, files{"a": x}, files{"a": x}, files{"a": x}, nil},
		{files{"a": x}, files{}, files{"a": x}, files{}, nil}, {files{"a": x}, files{"a": x}, files{}, files{}, nil}, {files{"a": x}, files{}, files{}, files{}, nil},
		{files{}, files{"a": x}, files{}, files{"a": x}, nil}, {files{}, files{}, files{"a": nil}, files{"a": nil}, nil}, {files{}, files{"a": x}, files{"a": x}, files{"a": x}, nil}, {files{}, files{"a": nil}, files{"a": nil}, files{"a": nil}, nil},
		{files{"a": nil}, files{}, files{"a": nil}, files{}, nil}, {files{"a": nil}, files{"a": x}, files{"a": nil}, files{"a": x}, nil},
		{files{"a": x}, files{"a": y}, files{"a": z}, files{"a": {"<<<<<<<", "y", "=======", "z", ">>>>>>>"}}, []string{"a"}},
		{files{"a": x}, files{}, files{"a": y}, files{"a": {"<<<<<<<", "=======", "y", ">>>>>>>"}}, []string{"a"}},
		{files{"a": x}, files{"a": y}, files{}, files{"a": {"<<<<<<<", "y", "=======", ">>>>>>>"}}, []string{"a"}},
		{files{}, files{"a": x}, files{"a": y}, files{"a": {"<<<<<<<", "x", "=======", "y", ">>>>>>>"}}, []string{"a"}},
		{files{}, files{"a": nil}, files{"a": y}, files{"a": y}, []string{"a"}}, {files{}, files{"a": y}, files{"a": nil}, files{"a": y}, []string{"a"}}, {files{"a": nil}, files{"a": y}, files{}, files{"a": y}, []string{"a"}}, {files{"a": nil}, files{}, files{"a": y}, files{"a": y}, []string{"a"}}, {files{"a": x}, files{"a": nil}, files{}, files{"a": nil}, []string{"a"}}, {files{"a": x}, files{}, files{"a": nil}, files{"a": nil}, []string{"a"}},
		{files{"a": {"x", "y", "z"}}, files{"a": {"u", "y", "z"}}, files{"a": {"x", "y", "v"}}, files{"a": {"u", "y", "v"}}, nil},
		{files{"b": x, "a": x, "c": x}, files{"b": y, "a": y, "d": y}, files{"b": z, "a": x, "c": y, "d": z}, files{"a": y, "b": {"<<<<<<<", "y", "=======", "z", ">>>>>>>"}, "c": {"<<<<<<<", "=======", "y", ">>>>>>>"}, "d": {"<<<<<<<", "y", "=======", "z", ">>>>>>>"}}, []string{"b", "c", "d"}},
		{files{"a": x}, files{"a/b": x}, files{"a": x}, files{"a/b": x}, nil}, {files{"a": x}, files{"a/b": x}, files{"c": x}, files{"a/b": x, "c": x}, nil},
	} {
		got, l, e := merge.Trees(c.old.tree(t), c.a.tree(t), c.b.tree(t))
		if !c.want.has(got) || !slices.Equal(l, c.conflicts) || e != api.OK {
			t.Errorf("%d: %s, %s, %d", i, brief(got.Files()), brief(l), e)
		}
		trees(t, c.old, c.a, c.b)
	}
}

// P33.1, P33.2, P33.3. Trees of more files, of which each side changed some.
func TestTreesLong(t *testing.T) {
	r := rand.New(rand.NewSource(333))
	names := []string{"a", "a-", "a.b/c", "a/b", "a/c/d", "a0", "b", "b/a", "c", "c/d/e", "d", "e"}
	seen := map[int]int{}
	for range 1500 {
		old := files{}
		side := func() files {
			f := files{}
			for _, s := range old.paths() {
				switch r.Intn(4) {
				case 0:
				case 1:
					f[s] = old[s]
				default:
					f[s] = changed(r, old[s], 6)
				}
			}
			for _, s := range names {
				f[s] = many("l", r.Intn(4))
				if _, ok := old[s]; ok || f.wrong() != api.OK || r.Intn(6) > 0 {
					delete(f, s)
					if l, ok := old[s]; ok {
						f[s] = l
					}
				}
				if f.wrong() != api.OK {
					delete(f, s)
				}
			}
			return f
		}
		for _, s := range names {
			old[s] = many("l", r.Intn(9))
			if old.wrong() != api.OK || r.Intn(3) == 0 {
				delete(old, s)
			}
		}
		l, e := trees(t, old, side(), side())
		if e == api.OK {
			seen[len(l)]++
		} else {
			seen[-1]++
		}
	}
	if seen[-1] == 0 || seen[0] == 0 || seen[1] == 0 || seen[2] == 0 {
		t.Error(seen)
	}
}

// P33.1. Lines that are too many, and files that clash: the first by paths is told, of one path that its lines are too many; that there are too many files is behind all.
func TestTreesErrors(t *testing.T) {
	x, y := many("x", 600), many("y", 600)
	full := func(s string) files {
		f := files{}
		for i := range 150 {
			f["m/"+s+strconv.Itoa(i)] = nil
		}
		return f
	}
	with := func(f files, paths ...string) files {
		for _, s := range paths {
			f[s] = []string{"q"}
		}
		return f
	}
	long := func(f files, s string, l []string) files {
		f[s] = l
		return f
	}
	for i, c := range []struct {
		old, a, b files
		want      api.Errno
	}{
		{files{}, files{"a": x}, files{"a": y}, api.ErrLong}, {files{"a": nil}, files{"a": x}, files{"a": y}, api.ErrLong}, {files{"a": {"q"}}, files{"a": append([]string{"q"}, x...)}, files{"a": append(slices.Clone(y), "q")}, api.ErrLong},
		{files{}, files{"a": nil}, files{"a/b": nil}, api.ErrClash}, {files{}, files{"a/b": nil}, files{"a": nil}, api.ErrClash}, {files{"a/b/c": nil}, files{"a/b/c": nil, "d": nil}, files{"a/b": nil, "d/e": nil}, api.ErrClash}, {files{"a": nil}, files{"a/b": nil}, files{"a": {"q"}}, api.ErrClash},
		{files{}, files{"b": x, "c": nil}, files{"b": y, "c/d": nil}, api.ErrLong}, {files{}, files{"b": x, "a": nil}, files{"b": y, "a/d": nil}, api.ErrClash},
		{files{}, files{"a": nil, "a-": x}, files{"a-": y, "a/b": nil}, api.ErrLong}, {files{}, files{"a": nil, "a0": x}, files{"a0": y, "a/b": nil}, api.ErrClash},
		{files{"a/b": {"q"}}, files{"a/b": x}, files{"a": nil}, api.ErrClash}, {files{"a/b": {"q"}}, files{"a/b": append([]string{"q"}, x...)}, files{"a/b": append(slices.Clone(y), "q")}, api.ErrLong},
		{files{"a/b": many("q", 999)}, files{"a/b": many("r", 999)}, files{"a": nil}, api.ErrLong}, {files{"a/b": many("q", 1000)}, files{"a/b": many("r", 997)}, files{"a": nil}, api.ErrClash},
		{files{}, full("a"), full("b"), api.ErrFull}, {files{}, long(full("a"), "z", x), long(full("b"), "z", y), api.ErrLong}, {files{}, with(full("a"), "z"), with(full("b"), "z/z"), api.ErrClash}, {files{}, with(full("a"), "z", "zz"), long(with(full("b"), "z/z"), "zz", y), api.ErrClash}, {files{}, long(with(full("a"), "z"), "n", x), long(with(full("b"), "z/z"), "n", y), api.ErrLong},
	} {
		if l, e := trees(t, c.old, c.a, c.b); l != nil || e != c.want {
			t.Errorf("%d: %s, %d, not %d", i, brief(l), e, c.want)
		}
	}
}

// P33.1. As many files as may be, and one more.
func TestTreesFull(t *testing.T) {
	old, a, b := files{}, files{}, files{}
	for i := range 198 {
		s := "d/" + strconv.Itoa(i)
		old[s], a[s], b[s] = nil, nil, nil
	}
	a["e"], b["f"] = []string{"x"}, nil
	if l, e := trees(t, old, a, b); l != nil || e != api.OK {
		t.Error(l, e)
	}
	b["g"] = nil
	if l, e := trees(t, old, a, b); l != nil || e != api.ErrFull {
		t.Error(l, e)
	}
	delete(a, "d/0")
	if l, e := trees(t, old, a, b); l != nil || e != api.OK {
		t.Error(l, e)
	}
	b["d/0"] = []string{"y"}
	if l, e := trees(t, old, a, b); l != nil || e != api.ErrFull {
		t.Error(l, e)
	}
	delete(a, "e")
	if l, e := trees(t, old, a, b); !slices.Equal(l, []string{"d/0"}) || e != api.OK {
		t.Error(l, e)
	}
	// As many lines as may be, in a good many of these files.
	l := many("l", 1000)
	for i := range 40 {
		s := "d/" + strconv.Itoa(i)
		old[s], a[s], b[s] = l, append([]string{"x"}, l[1:]...), append(slices.Clone(l[:999]), "y")
	}
	delete(b, "g")
	if l, e := trees(t, old, a, b); l != nil || e != api.OK {
		t.Error(l, e)
	}
}

// spoil changes a row, its spare room too.
func spoil(l []string) {
	for i := range l[:cap(l)] {
		l[:cap(l)][i] = "spoilt"
	}
}

// P33.1. What is handed in is neither changed nor kept, its spare room neither; what is told is new memory.
func TestMemory(t *testing.T) {
	room := strings.Split("abcdefgh", "")
	for _, c := range [][6]int{{0, 4, 0, 4, 0, 4}, {0, 4, 0, 4, 0, 2}, {0, 4, 1, 5, 0, 4}, {0, 0, 0, 3, 0, 0}, {0, 0, 0, 0, 0, 3}, {0, 3, 0, 0, 0, 3}, {0, 0, 0, 3, 0, 3}, {0, 0, 0, 2, 3, 6}, {1, 6, 0, 4, 2, 8}, {0, 2, 0, 3, 2, 5}} {
		old, a, b := room[c[0]:c[1]], room[c[2]:c[3]], room[c[4]:c[5]]
		want, _ := mergeOf(t, old, a, b)
		l, _, _ := merge.Lines(old, a, b)
		if strings.Join(room, "") != "abcdefgh" || !slices.Equal(l, want) {
			t.Fatalf("%v: %s", c, room)
		}
		spoil(l)
		if strings.Join(room, "") != "abcdefgh" {
			t.Fatalf("%v: what is told is what was handed in", c)
		}
	}
	old, a, b := files{"p": {"a", "b", "c"}, "q": {"a"}, "r": nil}, files{"p": {"x", "b", "c"}, "q": {"y"}, "r": nil, "s": {"u"}}, files{"p": {"a", "b", "z"}, "q": {"z"}, "r": {"r"}, "s": {"v"}}
	x, y, z := old.tree(t), a.tree(t), b.tree(t)
	m, conflicts, e := merge.Trees(x, y, z)
	if e != api.OK || !slices.Equal(conflicts, []string{"q", "s"}) || !old.has(x) || !a.has(y) || !b.has(z) {
		t.Fatal(conflicts, e)
	}
	for _, f := range m.Files() {
		spoil(f.Lines)
	}
	spoil(conflicts)
	again, l, _ := merge.Trees(x, y, z)
	if !tree.Same(again, m) || !slices.Equal(l, []string{"q", "s"}) || !old.has(x) || !a.has(y) || !b.has(z) {
		t.Error(brief(again.Files()), l)
	}
}
