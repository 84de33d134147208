package path_test

import (
	"regexp"
	"slices"
	"strings"
	"testing"

	"quitclaim/api"
	"quitclaim/path"
)

// partOf matches parts, the two that are none among them.
var partOf = regexp.MustCompile(`^[a-z0-9._-]+$`)

// partsOf are a path's parts, worked out by the words; none of what is none.
func partsOf(s string) []string {
	l := strings.Split(s, "/")
	if len(s) > 200 || len(l) > 16 {
		return nil
	}
	for _, p := range l {
		if !partOf.MatchString(p) || p == "." || p == ".." || strings.HasSuffix(p, "\n") {
			return nil
		}
	}
	return l
}

// all are all texts of some pieces, at most so many.
func all(pieces []string, most int) []string {
	l, row := []string{""}, []string{""}
	for range most {
		var next []string
		for _, s := range row {
			for _, p := range pieces {
				next = append(next, s+p)
			}
		}
		l, row = append(l, next...), next
	}
	return l
}

// edges are texts that are just paths, or just none.
func edges() []string {
	sixteen := strings.Repeat("a/", 15) + "a"
	wide := strings.Repeat(strings.Repeat("b", 11)+"/", 15)
	l := []string{
		sixteen, sixteen + "/a", "/" + sixteen, sixteen + "/", sixteen + "a", strings.Repeat("a/", 16), strings.Repeat("a/", 40) + "a",
		strings.Repeat("a", 199), strings.Repeat("a", 200), strings.Repeat("a", 201), strings.Repeat("a", 400),
		wide + strings.Repeat("c", 20), wide + strings.Repeat("c", 21), strings.Repeat("a", 198) + "/b", strings.Repeat("a", 199) + "/b", strings.Repeat("/", 200),
		"...", "....", "-", "_", "a.", ".a", "..a", "a..", ".-", "a/...", ".../a", "a/.b", "0", "9z", "a-b_c.d/e",
		".", "..", "a/.", "a/..", "./a", "../a", "a/./b", "a/../b", "/", "//", "a/", "/a", "a//b", "a b", "A", "aB", "a\\b", "a\n", "\na", "a\x00", "\xe4", "\u00e4", "a:b", "a*", "~",
	}
	return l
}

// texts are edges, and all short texts of what a path is made of and what it isn't.
func texts() []string {
	return append(edges(), all([]string{"a", ".", "/", "-", "B"}, 6)...)
}

// P10.1.
func TestRight(t *testing.T) {
	for _, s := range texts() {
		right := partsOf(s) != nil
		if path.Right(s) != right {
			t.Errorf("%q isn't %v", s, right)
		}
		if path.Prefix(s) != (right || s == "") {
			t.Errorf("as a prefix %q is %v", s, path.Prefix(s))
		}
	}
	if path.Right("") || !path.Prefix("") || path.Right(strings.Repeat("a", 1<<20)) || path.Right(strings.Repeat("a/", 1<<20)) {
		t.Error("nothing, or much")
	}
}

// P10.1. Each byte, alone and at each place of a part.
func TestBytes(t *testing.T) {
	const may = "abcdefghijklmnopqrstuvwxyz0123456789._-"
	for c := range 256 {
		b := string([]byte{byte(c)})
		for _, s := range []string{b + "a", "a" + b, "a" + b + "a", "x/" + b + "y", "x/y" + b, b + "y/z"} {
			want := strings.Contains(may, b) || s == "a/a"
			if path.Right(s) != want {
				t.Errorf("%q isn't %v", s, want)
			}
		}
		if path.Right(b) != (strings.Contains(may, b) && b != ".") {
			t.Errorf("%q is %v", b, path.Right(b))
		}
	}
}

// covers is whether one text covers another one, worked out by their parts.
func covers(prefix, s string) bool {
	l, m := partsOf(prefix), partsOf(s)
	if m == nil || prefix != "" && l == nil {
		return false
	}
	return len(l) <= len(m) && slices.Equal(l, m[:len(l)])
}

// P10.1. Of all pairs of short texts.
func TestCovers(t *testing.T) {
	l := append(all([]string{"a", "b", "/"}, 5), "A", ".", "..", "a/.", "a/..", "a b", "", "a.b", "a-b", "a/b.", "a.", "a.b/c")
	l = append(l, edges()...)
	for _, a := range l {
		for _, b := range l {
			if path.Covers(a, b) != covers(a, b) {
				t.Errorf("%q covers %q: %v", a, b, path.Covers(a, b))
			}
			beside := partsOf(a) != nil && partsOf(b) != nil && !covers(a, b) && !covers(b, a)
			if path.Beside(a, b) != beside {
				t.Errorf("%q, %q are beside: %v", a, b, path.Beside(a, b))
			}
		}
	}
	if !path.Covers("a/b", "a/b") || !path.Covers("a/b", "a/b/c") || path.Covers("a/b", "a/bc") || path.Covers("a/b/c", "a/b") || path.Covers("", "") || path.Beside("", "a") {
		t.Error("the example")
	}
}

// P10.1, P10.2.
func TestPartsAndJoin(t *testing.T) {
	for _, s := range texts() {
		want := partsOf(s)
		if l := path.Parts(s); !slices.Equal(l, want) {
			t.Errorf("parts of %q: %q", s, l)
		}
		above, last := "", ""
		if want != nil {
			above, last = strings.Join(want[:len(want)-1], "/"), want[len(want)-1]
			if j, e := path.Join(path.Parts(s)); j != s || e != api.OK {
				t.Errorf("joined parts of %q: %q, %d", s, j, e)
			}
		}
		if a, b := path.Above(s), path.Last(s); a != above || b != last {
			t.Errorf("%q: above %q, last %q", s, a, b)
		}
	}
}

// P10.1. Rows of whatever pieces: only parts make a path, and a path isn't a part.
func TestJoin(t *testing.T) {
	pieces := []string{"a", "b.c", "", ".", "..", "...", "/", "a/b", "/a", "a/", "A", "a b", strings.Repeat("c", 99), strings.Repeat("d", 200), strings.Repeat("d", 201)}
	rows := [][]string{nil, {}}
	for _, a := range pieces {
		rows = append(rows, []string{a})
		for _, b := range pieces {
			rows = append(rows, []string{a, b})
			for _, c := range pieces {
				rows = append(rows, []string{a, b, c})
			}
		}
	}
	for _, n := range []int{15, 16, 17, 40} {
		rows = append(rows, slices.Repeat([]string{"a"}, n), append(slices.Repeat([]string{"a"}, n-1), "a/a"), append(slices.Repeat([]string{strings.Repeat("b", 12)}, n-1), "b"))
	}
	for _, l := range rows {
		s, e := path.Join(l)
		joined := strings.Join(l, "/")
		if len(l) > 0 && slices.Equal(partsOf(joined), l) {
			if s != joined || e != api.OK {
				t.Errorf("%q: %q, %d", l, s, e)
			}
		} else if s != "" || e != api.ErrForm {
			t.Errorf("%q: %q, %d", l, s, e)
		}
	}
}

// deepest is the place of the longest one that covers, worked out by the words.
func deepest(l []string, s string) (int, bool) {
	for n := 200; n >= 0; n-- {
		for i, prefix := range l {
			if len(prefix) == n && covers(prefix, s) {
				return i, true
			}
		}
	}
	return 0, false
}

// P10.1.
func TestDeepest(t *testing.T) {
	pieces := []string{"", "a", "a/b", "a/b/c", "ab", "a/", "A", "c"}
	rows := [][]string{nil, {}, {"", "", "a", "a", "a/b", "a/b"}, {"a/b", "a", "", "a/b", "a/b/c/d"}, {"a/bb", "a/b", "a/bb/c"}, {"c", "ab", "a"}}
	for _, a := range pieces {
		for _, b := range pieces {
			for _, c := range pieces {
				rows = append(rows, []string{a, b, c})
			}
		}
	}
	for _, l := range rows {
		for _, s := range []string{"a", "a/b", "a/b/c", "a/b/c/d", "a/bb", "ab", "c", "d", "", "A", "a/", "a//b"} {
			i, ok := path.Deepest(l, s)
			if j, want := deepest(l, s); i != j || ok != want {
				t.Errorf("of %q, %q: %d, %v, not %d, %v", l, s, i, ok, j, want)
			}
		}
	}
	if i, ok := path.Deepest([]string{"a", "b", "", ""}, "c/d"); i != 2 || !ok {
		t.Errorf("%d, %v", i, ok)
	}
}

// P10.1. What is handed in is neither changed nor kept, and what is told is new.
func TestMemory(t *testing.T) {
	a, b := path.Parts("a/b/c"), path.Parts("a/b/c")
	for i := range a[:cap(a)] {
		a[:cap(a)][i] = "x"
	}
	if !slices.Equal(b, []string{"a", "b", "c"}) || !slices.Equal(path.Parts("a/b/c"), b) {
		t.Errorf("%q", b)
	}
	roomy := []string{"a", "b", "c", "d"}
	path.Join(roomy[:2])
	path.Deepest(roomy[:2], "a/b")
	if !slices.Equal(roomy, []string{"a", "b", "c", "d"}) {
		t.Errorf("%q", roomy)
	}
}
