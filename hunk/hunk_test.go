package hunk_test

import (
	"math"
	"reflect"
	"slices"
	"strings"
	"testing"

	"quitclaim/api"
	"quitclaim/hunk"
)

// rows are all rows of at most so many lines, each a or b.
func rows(most int) [][]string {
	l, row := [][]string{nil}, [][]string{nil}
	for range most {
		var next [][]string
		for _, r := range row {
			next = append(next, append(slices.Clone(r), "a"), append(slices.Clone(r), "b"))
		}
		l, row = append(l, next...), next
	}
	return l
}

// hunks are all that have a place of at most so much, and at most so many old lines and new ones; the two that change nothing among them.
func hunks(at, most int) []hunk.Hunk {
	var l []hunk.Hunk
	for i := range at + 1 {
		for _, old := range rows(most) {
			for _, new := range rows(most) {
				l = append(l, hunk.Hunk{At: i, Old: old, New: new})
			}
		}
	}
	return l
}

// many is a row of so many lines that are unlike one another.
func many(n int) []string {
	l := make([]string, n)
	for i := range l {
		l[i] = strings.Repeat("x", i%7) + string(rune('a'+i%23)) + strings.Repeat("y", i/161)
	}
	return l
}

// linesOf tells whether lines are right, worked out by the words.
func linesOf(l []string) bool {
	for _, s := range l {
		if len(s) > 200 || strings.ContainsRune(s, 10) {
			return false
		}
	}
	return len(l) <= 1000
}

// rightOf tells whether a hunk is right, worked out by the words.
func rightOf(h hunk.Hunk) bool {
	return h.At >= 0 && h.At <= 1000 && linesOf(h.Old) && linesOf(h.New) && (len(h.Old) > 0 || len(h.New) > 0)
}

// applied are lines with a hunk, worked out line by line.
func applied(l []string, h hunk.Hunk) ([]string, api.Errno) {
	if !linesOf(l) || !rightOf(h) {
		return nil, api.ErrForm
	}
	if h.At > len(l) {
		return nil, api.ErrRange
	}
	for i, s := range h.Old {
		if h.At+i >= len(l) || l[h.At+i] != s {
			return nil, api.ErrClash
		}
	}
	var out []string
	for i := range h.At {
		out = append(out, l[i])
	}
	out = append(out, h.New...)
	for i := h.At + len(h.Old); i < len(l); i++ {
		out = append(out, l[i])
	}
	if len(out) > 1000 {
		return nil, api.ErrLong
	}
	return out, api.OK
}

// wrongLines are rows of lines that aren't right.
func wrongLines() [][]string {
	return [][]string{
		many(1001), make([]string, 1001), make([]string, 3000), {strings.Repeat("a", 201)}, {"a", strings.Repeat("a", 1000), "b"},
		{"\n"}, {"a\n"}, {"\na"}, {"a\nb"}, {"a", "b", "c\nd"}, append(many(999), "\n"), append(many(999), strings.Repeat("b", 201)),
	}
}

// rightLines are rows of lines that are right, just so and wholly.
func rightLines() [][]string {
	return [][]string{
		nil, {}, {""}, {"", ""}, {"a", "b"}, many(1000), make([]string, 1000), {strings.Repeat("a", 200)}, {"\r", "\x00", "\xff\xfe", "\u00e4", "a b\t", "\x0b\x0c", "\x8a"}, append(many(999), strings.Repeat("b", 200)),
	}
}

// wrongHunks are hunks that aren't right.
func wrongHunks() []hunk.Hunk {
	l := []hunk.Hunk{{}, {At: 1}, {At: 1000, Old: []string{}, New: []string{}}}
	for _, at := range []int{-1, -1000, math.MinInt, 1001, 1 << 32, math.MaxInt} {
		l = append(l, hunk.Hunk{At: at, Old: []string{"a"}}, hunk.Hunk{At: at, New: []string{"a"}}, hunk.Hunk{At: at, Old: []string{"a"}, New: []string{"b"}}, hunk.Hunk{At: at})
	}
	for _, w := range wrongLines() {
		l = append(l, hunk.Hunk{Old: w}, hunk.Hunk{New: w}, hunk.Hunk{Old: w, New: []string{"a"}}, hunk.Hunk{Old: []string{"a"}, New: w}, hunk.Hunk{At: 5, Old: w, New: w})
	}
	return l
}

// P11.1.
func TestLines(t *testing.T) {
	for i, l := range rightLines() {
		if !hunk.Lines(l) {
			t.Errorf("%d aren't", i)
		}
	}
	for i, l := range wrongLines() {
		if hunk.Lines(l) {
			t.Errorf("%d are", i)
		}
	}
	for c := range 256 {
		b := string([]byte{byte(c)})
		if hunk.Lines([]string{"x", b}) != (c != 10) || hunk.Lines([]string{"x" + b + "y"}) != (c != 10) {
			t.Errorf("byte %d", c)
		}
	}
}

// P11.1.
func TestRight(t *testing.T) {
	for _, at := range []int{0, 1, 500, 999, 1000} {
		for i, l := range rightLines() {
			if len(l) == 0 {
				continue
			}
			for _, h := range []hunk.Hunk{{At: at, Old: l}, {At: at, New: l}, {At: at, Old: l, New: l}, {At: at, Old: l, New: []string{""}}, {At: at, Old: []string{"a"}, New: l}} {
				if !hunk.Right(h) {
					t.Errorf("at %d, %d isn't", at, i)
				}
			}
		}
	}
	for i, h := range wrongHunks() {
		if hunk.Right(h) {
			t.Errorf("%d is", i)
		}
	}
}

// P11.1, P11.2. Of all small lines and hunks: what fits, what comes of it, and what undoes it.
func TestApply(t *testing.T) {
	for _, l := range rows(4) {
		for _, h := range hunks(5, 2) {
			applies(t, l, h)
		}
	}
}

// applies looks at one hunk.
func applies(t *testing.T, l []string, h hunk.Hunk) {
	t.Helper()
	want, wrong := applied(l, h)
	m, e := hunk.Apply(l, h)
	if !slices.Equal(m, want) || e != wrong {
		t.Fatalf("%q, %v: %q, %d, not %q, %d", l, h, m, e, want, wrong)
	}
	if fits := wrong == api.OK || wrong == api.ErrLong; hunk.Fits(l, h) != fits {
		t.Fatalf("%q, %v fits: %v", l, h, !fits)
	}
	if e == api.OK {
		if back, e := hunk.Apply(m, hunk.Invert(h)); !slices.Equal(back, l) || e != api.OK {
			t.Fatalf("%q, %v undone: %q, %d", l, h, back, e)
		}
	}
}

// P11.1. That lines or hunk aren't right is told ahead of the place, this ahead of what doesn't fit, this ahead of too many lines.
func TestApplyWrong(t *testing.T) {
	for _, h := range append(wrongHunks(), hunk.Hunk{New: []string{"a"}}, hunk.Hunk{At: 1000, Old: []string{"a"}}) {
		for _, l := range append(wrongLines(), many(3), nil) {
			if linesOf(l) && rightOf(h) {
				continue
			}
			if m, e := hunk.Apply(l, h); len(m) > 0 || e != api.ErrForm || hunk.Fits(l, h) {
				t.Errorf("%d lines, %.80v: %d, %d", len(l), h, len(m), e)
			}
		}
	}
	for _, at := range []int{4, 5, 999, 1000} {
		for _, h := range []hunk.Hunk{{At: at, New: many(1)}, {At: at, Old: many(1)}, {At: at, Old: many(1000), New: many(1000)}, {At: at, New: many(1000)}} {
			if m, e := hunk.Apply(many(3), h); len(m) > 0 || e != api.ErrRange || hunk.Fits(many(3), h) {
				t.Errorf("at %d: %q, %d", at, m, e)
			}
		}
	}
	clashing := []hunk.Hunk{{At: 3, Old: []string{"c"}, New: many(1000)}, {At: 0, Old: []string{"?"}, New: many(1000)}, {At: 1, Old: many(1000)}, {At: 2, Old: []string{many(3)[2], "d"}}, {Old: many(4)}, {At: 3, Old: []string{""}}}
	for _, h := range clashing {
		if m, e := hunk.Apply(many(3), h); len(m) > 0 || e != api.ErrClash || hunk.Fits(many(3), h) {
			t.Errorf("%.80v: %q, %d", h, m, e)
		}
	}
}

// P11.1. Around the greatest count of lines.
func TestApplyLong(t *testing.T) {
	full := many(1000)
	for _, h := range []hunk.Hunk{
		{New: []string{"a"}}, {At: 1000, New: []string{"a"}}, {At: 500, New: []string{""}}, {At: 999, Old: full[999:], New: []string{"a", "b"}}, {Old: full[:1], New: full[:2]}, {At: 1000, New: full}, {Old: full[:999], New: full},
		{At: 999, Old: full[999:], New: []string{"a"}}, {Old: full, New: full}, {Old: full}, {At: 1, Old: full[1:], New: full[:999]}, {At: 300, Old: full[300:302], New: []string{"a"}},
	} {
		applies(t, full, h)
	}
	for _, h := range []hunk.Hunk{{New: []string{"a"}}, {At: 999, New: []string{"a"}}, {At: 7, New: []string{"a", "b"}}, {At: 999, New: full}} {
		applies(t, full[:999], h)
	}
	applies(t, nil, hunk.Hunk{New: full})
	applies(t, full[:1], hunk.Hunk{New: full})
	applies(t, full[:1], hunk.Hunk{Old: full[:1], New: full})
}

// P11.1.
func TestExample(t *testing.T) {
	m, e := hunk.Apply([]string{"a", "b"}, hunk.Hunk{At: 1, Old: []string{"b"}, New: []string{"c", "d"}})
	if !slices.Equal(m, []string{"a", "c", "d"}) || e != api.OK {
		t.Errorf("%q, %d", m, e)
	}
}

// allOf are lines with all hunks, worked out one by one.
func allOf(l []string, hunks []hunk.Hunk) ([]string, int, api.Errno) {
	if !linesOf(l) {
		return nil, 0, api.ErrForm
	}
	for i, h := range hunks {
		m, e := applied(l, h)
		if e != api.OK {
			return nil, i, e
		}
		l = m
	}
	return l, len(hunks), api.OK
}

// P11.1, P11.2. Rows of hunks, and what undoes them all.
func TestAllAndBack(t *testing.T) {
	choice := hunks(3, 1)
	for _, l := range rows(3) {
		for _, a := range choice {
			for _, b := range choice {
				undone(t, l, []hunk.Hunk{a, b})
			}
			undone(t, l, []hunk.Hunk{a})
			undone(t, l, slices.Repeat([]hunk.Hunk{a}, 5))
		}
		undone(t, l, nil)
	}
	full := many(1000)
	for _, l := range append(wrongLines(), full) {
		for _, h := range [][]hunk.Hunk{nil, {}, {{At: 1, Old: full[1:2]}, {At: 998, New: full[:1]}, {At: 998, New: full[:1]}}, {{}}, {{At: -1}}, {{Old: full}}} {
			undone(t, l, h)
		}
	}
}

// undone looks at one row of hunks.
func undone(t *testing.T, l []string, hunks []hunk.Hunk) {
	t.Helper()
	want, count, wrong := allOf(l, hunks)
	m, n, e := hunk.All(l, hunks)
	if !slices.Equal(m, want) || n != count || e != wrong {
		t.Fatalf("%.80q, %.200v: %.80q, %d, %d, not %.80q, %d, %d", l, hunks, m, n, e, want, count, wrong)
	}
	back := hunk.Back(hunks)
	for i, h := range back {
		if other := hunks[len(hunks)-1-i]; h.At != other.At || !slices.Equal(h.Old, other.New) || !slices.Equal(h.New, other.Old) {
			t.Fatalf("%v back is %v", hunks, back)
		}
	}
	if len(back) != len(hunks) {
		t.Fatalf("%v back is %v", hunks, back)
	}
	if e == api.OK {
		if m, n, e := hunk.All(m, back); !slices.Equal(m, l) || n != len(hunks) || e != api.OK {
			t.Fatalf("%.80q, %.200v undone: %.80q, %d, %d", l, hunks, m, n, e)
		}
	}
}

// P11.1. Also of hunks that aren't right.
func TestInvert(t *testing.T) {
	for _, h := range append(wrongHunks(), hunks(2, 2)...) {
		b := hunk.Invert(h)
		if b.At != h.At || !slices.Equal(b.Old, h.New) || !slices.Equal(b.New, h.Old) || !hunk.Same(hunk.Invert(b), h) {
			t.Fatalf("%.80v: %.80v", h, b)
		}
		l := hunk.Back([]hunk.Hunk{h, {At: 7}})
		if len(l) != 2 || l[0].At != 7 || !hunk.Same(l[1], b) {
			t.Fatalf("%.80v", l)
		}
	}
}

// apart tells whether the second one is, worked out by the words.
func apart(a, b hunk.Hunk) bool {
	if !rightOf(a) || !rightOf(b) {
		return false
	}
	ends := b.At + len(b.Old)
	return ends < a.At || b.At > a.At+len(a.New)
}

// P11.1, P11.2. Of all small pairs: those that are apart, and what they do in the other order.
func TestApartAndSwap(t *testing.T) {
	for _, a := range hunks(4, 2) {
		for _, b := range hunks(7, 1) {
			swaps(t, a, b)
			swaps(t, b, a)
		}
	}
	full := many(1000)
	far := []hunk.Hunk{{New: full[:999]}, {New: full}, {Old: full}, {At: 1000, New: full[:2]}, {At: 1000, Old: full[:1]}, {At: 999, Old: full[:3]}, {At: 998, New: full[:1]}, {Old: full[:998]}, {Old: full[:999]}, {At: 1, Old: full[1:990], New: full[:3]}}
	for _, a := range far {
		for _, b := range far {
			swaps(t, a, b)
		}
	}
}

// swaps looks at one pair.
func swaps(t *testing.T, a, b hunk.Hunk) {
	t.Helper()
	want := apart(a, b)
	c, d, ok := hunk.Swap(a, b)
	if hunk.Apart(a, b) != want || ok != want {
		t.Fatalf("%.99v, %.99v are apart: %v, %v", a, b, hunk.Apart(a, b), ok)
	}
	if !ok {
		if !reflect.DeepEqual(c, hunk.Hunk{}) || !reflect.DeepEqual(d, hunk.Hunk{}) {
			t.Fatalf("%.99v, %.99v: %v, %v", a, b, c, d)
		}
		return
	}
	first, second := b, a
	if b.At < a.At {
		second.At += len(b.New) - len(b.Old)
	} else {
		first.At -= len(a.New) - len(a.Old)
	}
	if !hunk.Same(c, first) || !hunk.Same(d, second) {
		t.Fatalf("%.99v, %.99v: %.99v, %.99v", a, b, c, d)
	}
	if !rightOf(c) || !rightOf(d) {
		return
	}
	if e, f, ok := hunk.Swap(c, d); !ok || !hunk.Same(e, a) || !hunk.Same(f, b) {
		t.Fatalf("%.99v, %.99v swapped twice: %.99v, %.99v", a, b, e, f)
	}
}

// P11.2. Wherever both can be applied.
func TestSwapDoesTheSame(t *testing.T) {
	count := 0
	for _, l := range rows(5) {
		for _, a := range hunks(5, 1) {
			m, e := hunk.Apply(l, a)
			if e != api.OK {
				continue
			}
			for _, b := range hunks(6, 1) {
				c, d, ok := hunk.Swap(a, b)
				if !ok {
					continue
				}
				want, _, e := hunk.All(m, []hunk.Hunk{b})
				got, _, f := hunk.All(l, []hunk.Hunk{c, d})
				if e != f || !slices.Equal(got, want) {
					t.Fatalf("%q, %v, %v: %q, %d, not %q, %d", l, a, b, got, f, want, e)
				}
				count++
			}
		}
	}
	if count == 0 {
		t.Error("none is apart")
	}
}

// P11.2. Where the lines are as many as may be, one order may have no room where the other one has; where both have, they do the same.
func TestSwapWithoutRoom(t *testing.T) {
	full := many(1000)
	less, more := hunk.Hunk{At: 10, Old: full[10:14]}, hunk.Hunk{At: 990, New: full[:4]}
	c, d, ok := hunk.Swap(less, more)
	if !ok || c.At != 994 || d.At != 10 {
		t.Fatalf("%v, %v, %v", c, d, ok)
	}
	if _, n, e := hunk.All(full, []hunk.Hunk{less, more}); n != 2 || e != api.OK {
		t.Error(n, e)
	}
	if _, n, e := hunk.All(full, []hunk.Hunk{c, d}); n != 0 || e != api.ErrLong {
		t.Error(n, e)
	}
	want, _, e := hunk.All(full[:996], []hunk.Hunk{less, {At: 980, New: full[:4]}})
	c, d, _ = hunk.Swap(less, hunk.Hunk{At: 980, New: full[:4]})
	got, _, f := hunk.All(full[:996], []hunk.Hunk{c, d})
	if e != api.OK || f != api.OK || !slices.Equal(got, want) {
		t.Error(e, f)
	}
}

// P11.1. Hunks that aren't right aren't apart.
func TestApartWrong(t *testing.T) {
	far := hunk.Hunk{At: 500, New: []string{"a"}}
	for _, h := range wrongHunks() {
		for _, other := range []hunk.Hunk{far, {New: []string{"a"}}, {At: 1000, New: []string{"a"}}, h} {
			swaps(t, h, other)
			swaps(t, other, h)
		}
	}
}

// P11.1.
func TestSame(t *testing.T) {
	l := append(hunks(2, 2), wrongHunks()...)
	for i, a := range l {
		for j, b := range l {
			want := a.At == b.At && reflect.DeepEqual(append([]string{}, a.Old...), append([]string{}, b.Old...)) && reflect.DeepEqual(append([]string{}, a.New...), append([]string{}, b.New...))
			if hunk.Same(a, b) != want || i == j && !want {
				t.Fatalf("%.99v, %.99v: %v", a, b, !want)
			}
		}
	}
	if !hunk.Same(hunk.Hunk{At: 3, Old: nil, New: []string{}}, hunk.Hunk{At: 3, Old: []string{}, New: nil}) {
		t.Error("nil and empty rows")
	}
}

// P11.1.
func TestTextAndSplit(t *testing.T) {
	for _, l := range append(rightLines(), rows(3)...) {
		var want string
		for _, s := range l {
			want += s + "\n"
		}
		s := hunk.Text(l)
		if s != want {
			t.Fatalf("%q: %q", l, s)
		}
		if m, e := hunk.Split(s); !slices.Equal(m, l) || e != api.OK {
			t.Fatalf("%q: %q, %d", s, m, e)
		}
	}
	if s := hunk.Text([]string{"a\nb", "\n"}); s != "a\nb\n\n\n" {
		t.Errorf("%q", s)
	}
	if s := hunk.Text(make([]string, 1001)); s != strings.Repeat("\n", 1001) {
		t.Errorf("%d bytes", len(s))
	}
}

// P11.1.
func TestSplitWrong(t *testing.T) {
	long := strings.Repeat("a", 201)
	for _, s := range []string{
		"a", "\na", "a\nb", " ", "\x00", "a\n\r", "\n\n ", long + "\n", "a\n" + long + "\nb\n", "a\n" + long + "\n", strings.Repeat("\n", 1001), strings.Repeat("\n", 1<<20), strings.Repeat("a\n", 1001), strings.Repeat("a\n", 1000) + "b", strings.Repeat("\n", 1000) + "b",
	} {
		if l, e := hunk.Split(s); len(l) > 0 || e != api.ErrForm {
			t.Errorf("%.20q: %d lines, %d", s, len(l), e)
		}
	}
	for n, s := range map[int]string{0: "", 1: "\n", 2: "\r\n\r\n", 3: "a\n\nb\n", 999: strings.Repeat("\n", 999), 1000: strings.Repeat("\n", 1000)} {
		if l, e := hunk.Split(s); len(l) != n || e != api.OK {
			t.Errorf("%.20q: %d lines, %d", s, len(l), e)
		}
	}
}

// spoil changes a row, its spare room too.
func spoil(l []string) {
	for i := range l[:cap(l)] {
		l[:cap(l)][i] = "spoilt"
	}
}

// P11.1. What is handed in is neither changed nor kept, its spare room neither; what is told shares nothing, whichever piece is empty.
func TestMemory(t *testing.T) {
	for _, h := range []hunk.Hunk{
		{At: 3, New: []string{"x"}}, {New: []string{"x"}}, {At: 1, New: []string{"x"}}, {At: 1, Old: []string{"b"}, New: []string{"x"}}, {At: 1, Old: []string{"b"}},
		{Old: []string{"a"}}, {At: 2, Old: []string{"c"}}, {At: 1, Old: []string{"b", "c"}}, {Old: []string{"a", "b"}}, {Old: []string{"a", "b", "c"}, New: []string{"x"}}, {Old: []string{"a", "b", "c"}},
	} {
		roomy := []string{"a", "b", "c", "d", "e"}
		h.Old, h.New = append(h.Old, "o")[:len(h.Old)], append(h.New, "n")[:len(h.New)]
		before := hunk.Hunk{At: h.At, Old: slices.Clone(h.Old[:cap(h.Old)]), New: slices.Clone(h.New[:cap(h.New)])}
		spoil(tell(hunk.Apply(roomy[:3], h)))
		l, _, _ := hunk.All(roomy[:3], []hunk.Hunk{h})
		spoil(l)
		l, _, _ = hunk.All(roomy[:3], nil)
		spoil(l)
		i, back := hunk.Invert(h), hunk.Back([]hunk.Hunk{h})
		far := hunk.Hunk{At: 9, New: append(make([]string, 0, 4), "f")}
		c, d, _ := hunk.Swap(h, far)
		f, g, ok := hunk.Swap(far, h)
		for _, one := range []hunk.Hunk{i, back[0], c, d, f, g} {
			spoil(one.Old)
			spoil(one.New)
		}
		if !slices.Equal(roomy, []string{"a", "b", "c", "d", "e"}) || !ok || far.New[0] != "f" {
			t.Errorf("%v: %q, %q", h, roomy, far.New)
		}
		if after := (hunk.Hunk{At: h.At, Old: h.Old[:cap(h.Old)], New: h.New[:cap(h.New)]}); !hunk.Same(after, before) {
			t.Errorf("%v is %v", before, after)
		}
	}
}

// tell is the lines alone.
func tell(l []string, e api.Errno) []string { return l }

// P11.1. A hunk's two rows may be one: what is told of it shares nothing, neither with it nor among its rows.
func TestMemoryOfOneRow(t *testing.T) {
	row := []string{"a", "b"}
	h := hunk.Hunk{At: 1, Old: row, New: row}
	far := hunk.Hunk{At: 9, Old: row, New: row}
	c, d, ok := hunk.Swap(h, far)
	i, back := hunk.Invert(h), hunk.Back([]hunk.Hunk{h, h})
	l := [][]string{c.Old, c.New, d.Old, d.New, i.Old, i.New, back[0].Old, back[0].New, back[1].Old, back[1].New}
	for n, one := range l {
		spoil(one)
		for _, rest := range append(slices.Clone(l[n+1:]), row) {
			if !slices.Equal(rest, []string{"a", "b"}) {
				t.Fatalf("row %d: %q", n, rest)
			}
		}
	}
	if !ok {
		t.Error("they aren't apart")
	}
}
