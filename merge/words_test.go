package merge_test

import (
	"fmt"
	"maps"
	"slices"
	"strconv"
	"strings"
	"testing"

	"quitclaim/api"
	"quitclaim/diff"
	"quitclaim/tree"
)

// brief is the beginning of a value's text.
func brief(v any) string {
	s := fmt.Sprintf("%q", v)
	return s[:min(len(s), 400)]
}

// many is a row of so many lines, no two alike, that begin with a text.
func many(text string, n int) []string {
	l := make([]string, n)
	for i := range l {
		l[i] = text + strconv.Itoa(i)
	}
	return l
}

// rows are all rows of at most so many lines, each one of some.
func rows(lines []string, most int) [][]string {
	l, row := [][]string{nil}, [][]string{nil}
	for range most {
		var next [][]string
		for _, r := range row {
			for _, s := range lines {
				next = append(next, append(slices.Clone(r), s))
			}
		}
		l, row = append(l, next...), next
	}
	return l
}

// stretch is what one side does to old lines, from a place to another one, and its group's number.
type stretch struct {
	side, from, to int
	new            []string
	group          int
}

// stretches are those of a side: its hunks are applied to the old lines' places, so that each tells by the places that stand behind it where it is.
func stretches(t *testing.T, side int, old, new []string) []stretch {
	t.Helper()
	hunks, e := diff.Of(old, new)
	if e != api.OK {
		t.Fatal(e)
	}
	row := make([]int, len(old))
	for i := range row {
		row[i] = i
	}
	var l []stretch
	for _, h := range hunks {
		from := len(old)
		if h.At < len(row) {
			from = row[h.At]
		}
		l = append(l, stretch{side: side, from: from, to: from + len(h.Old), new: h.New, group: len(l) + 10000*side})
		row = slices.Concat(row[:h.At], slices.Repeat([]int{-1}, len(h.New)), row[h.At+len(h.Old):])
	}
	return l
}

// touch tells whether two stretches do.
func touch(a, b stretch) bool { return a.from <= b.to && a.to >= b.from }

// grouped are stretches, all that touch one another, through however many, with one group's number.
func grouped(l []stretch) []stretch {
	for changed := true; changed; {
		changed = false
		for i := range l {
			for k := range l {
				if touch(l[i], l[k]) && l[i].group > l[k].group {
					l[i].group, changed = l[k].group, true
				}
			}
		}
	}
	return l
}

// part is what a side makes of the old lines of a group, line by line.
func part(old []string, l []stretch, side, from, to int) (made []string, any bool) {
	for p := from; p <= to; p++ {
		kept := p < to
		for _, s := range l {
			if s.side != side {
				continue
			}
			any = true
			if s.from == p {
				made = append(made, s.new...)
			}
			if s.from <= p && p < s.to {
				kept = false
			}
		}
		if kept {
			made = append(made, old[p])
		}
	}
	return made, any
}

// mergeOf is merged lines by the words, however many, and how many conflicts they have.
func mergeOf(t *testing.T, old, a, b []string) ([]string, int) {
	t.Helper()
	groups := map[int][]stretch{}
	for _, s := range grouped(append(stretches(t, 1, old, a), stretches(t, 2, old, b)...)) {
		groups[s.group] = append(groups[s.group], s)
	}
	var l []string
	conflicts, at := 0, 0
	for len(groups) > 0 {
		first, from, to := -1, 0, 0
		for n, g := range groups {
			least := slices.MinFunc(g, func(x, y stretch) int { return x.from - y.from }).from
			if first < 0 || least < from {
				first, from, to = n, least, slices.MaxFunc(g, func(x, y stretch) int { return x.to - y.to }).to
			}
		}
		l = append(l, old[at:from]...)
		x, mine := part(old, groups[first], 1, from, to)
		y, yours := part(old, groups[first], 2, from, to)
		switch {
		case !yours:
			l = append(l, x...)
		case !mine || slices.Equal(x, y):
			l = append(l, y...)
		default:
			l = slices.Concat(l, []string{"<<<<<<<"}, x, []string{"======="}, y, []string{">>>>>>>"})
			conflicts++
		}
		at = to
		delete(groups, first)
	}
	return append(l, old[at:]...), conflicts
}

// files are what a tree has, by paths.
type files map[string][]string

// tree is the tree of files.
func (f files) tree(t *testing.T) tree.Tree {
	t.Helper()
	var l []tree.File
	for _, s := range f.paths() {
		l = append(l, tree.File{Path: s, Lines: f[s]})
	}
	x, e := tree.From(l)
	if e != api.OK {
		t.Fatalf("%s: %d", brief(f), e)
	}
	return x
}

// paths are those of files, rising.
func (f files) paths() []string { return slices.Sorted(maps.Keys(f)) }

// has tells whether a tree has these files, and no others.
func (f files) has(x tree.Tree) bool {
	if x.Len() != len(f) || !slices.Equal(x.Below(""), f.paths()) {
		return false
	}
	for s, want := range f {
		if l, ok := x.Get(s); !ok || !slices.Equal(l, want) {
			return false
		}
	}
	return true
}

// alike tells whether two files have the same at a path.
func alike(f, g files, s string) bool {
	x, is := f[s]
	y, was := g[s]
	return is == was && slices.Equal(x, y)
}

// treesOf are merged files by the words, and the paths with conflicts.
func treesOf(t *testing.T, old, a, b files) (files, []string) {
	t.Helper()
	out := files{}
	var conflicts []string
	for _, s := range slices.Compact(slices.Sorted(slices.Values(slices.Concat(old.paths(), a.paths(), b.paths())))) {
		is := a
		if alike(a, old, s) {
			is = b
		}
		if alike(a, b, s) || alike(a, old, s) || alike(b, old, s) {
			if l, ok := is[s]; ok {
				out[s] = l
			}
			continue
		}
		_, x := old[s]
		_, y := a[s]
		_, z := b[s]
		l, n := mergeOf(t, old[s], a[s], b[s])
		out[s] = l
		if n > 0 || !x || !y || !z {
			conflicts = append(conflicts, s)
		}
	}
	return out, conflicts
}

// wrong is the first error of merged files, by paths.
func (f files) wrong() api.Errno {
	var seen []string
	for _, s := range f.paths() {
		if len(f[s]) > 1000 {
			return api.ErrLong
		}
		for _, other := range seen {
			if strings.HasPrefix(s, other+"/") {
				return api.ErrClash
			}
		}
		seen = append(seen, s)
	}
	if len(seen) > 200 {
		return api.ErrFull
	}
	return api.OK
}
