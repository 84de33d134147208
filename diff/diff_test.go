package diff_test

import (
	"math/rand"
	"slices"
	"strconv"
	"strings"
	"testing"

	"quitclaim/api"
	"quitclaim/diff"
	"quitclaim/hunk"
)

// rows are all rows of at most so many lines, each one of some.
func rows(lines []string, most int) [][]string {
	l, row := [][]string{nil}, [][]string{nil}
	for range most {
		var next [][]string
		for _, r := range row {
			for _, s := range lines {
				next = append(next, append(slices.Clone(r), s))
			}
		}
		l, row = append(l, next...), next
	}
	return l
}

// small are all rows of up to six lines of two, and of up to four of three.
func small() [][][]string {
	return [][][]string{rows([]string{"a", "b"}, 6), rows([]string{"a", "", "c"}, 4)}
}

// many is a row of so many lines, no two alike, that begin with a text.
func many(text string, n int) []string {
	l := make([]string, n)
	for i := range l {
		l[i] = text + strconv.Itoa(i)
	}
	return l
}

// words work out what two rows have in common, and their hunks, by the words.
type words struct {
	old, new []string
	known    map[[2]int]int
}

// k is K(i, j).
func (w words) k(i, j int) int {
	if i >= len(w.old) || j >= len(w.new) {
		return 0
	}
	if v, ok := w.known[[2]int{i, j}]; ok {
		return v
	}
	v := max(w.k(i+1, j), w.k(i, j+1))
	if w.old[i] == w.new[j] {
		v = max(v, 1+w.k(i+1, j+1))
	}
	w.known[[2]int{i, j}] = v
	return v
}

// step tells what is done at i and j: keep, drop or put in.
func (w words) step(i, j int) string {
	both := i < len(w.old) && j < len(w.new)
	switch {
	case both && w.old[i] == w.new[j] && w.k(i, j) == w.k(i+1, j+1)+1:
		return "keep"
	case i < len(w.old) && (j == len(w.new) || w.k(i+1, j) >= w.k(i, j+1)):
		return "drop"
	}
	return "put in"
}

// hunks are those from old to new lines.
func (w words) hunks() []hunk.Hunk {
	var l []hunk.Hunk
	var h hunk.Hunk
	moved := 0
	closed := func(i int) {
		if len(h.Old)+len(h.New) == 0 {
			return
		}
		h.At = i - len(h.Old) + moved
		moved += len(h.New) - len(h.Old)
		l, h = append(l, h), hunk.Hunk{}
	}
	i, j := 0, 0
	for i < len(w.old) || j < len(w.new) {
		switch w.step(i, j) {
		case "keep":
			closed(i)
			i, j = i+1, j+1
		case "drop":
			h.Old = append(h.Old, w.old[i])
			i++
		default:
			h.New = append(h.New, w.new[j])
			j++
		}
	}
	closed(i)
	return l
}

// applied are lines with all hunks, however many lines come to be there on the way.
func applied(t *testing.T, l []string, hunks []hunk.Hunk) []string {
	t.Helper()
	for _, h := range hunks {
		behind := h.At + len(h.Old)
		if h.At < 0 || behind > len(l) || !slices.Equal(l[h.At:behind], h.Old) {
			t.Fatalf("%.99v doesn't fit", h)
		}
		l = slices.Concat(l[:h.At], h.New, l[behind:])
	}
	return l
}

// same tells whether two rows of hunks are one.
func same(a, b []hunk.Hunk) bool { return slices.EqualFunc(a, b, hunk.Same) }

// looks looks at one pair of rows.
func looks(t *testing.T, old, new []string) {
	t.Helper()
	w := words{old, new, map[[2]int]int{}}
	n, e := diff.Common(old, new)
	if n != w.k(0, 0) || e != api.OK {
		t.Fatalf("%.99q, %.99q have %d in common, %d, not %d", old, new, n, e, w.k(0, 0))
	}
	l, e := diff.Of(old, new)
	if want := w.hunks(); !same(l, want) || e != api.OK {
		t.Fatalf("%.99q, %.99q: %.200v, %d, not %.200v", old, new, l, e, want)
	}
	makes(t, old, new, l)
	if size := diff.Size(l); size != len(old)+len(new)-2*n {
		t.Fatalf("%.99q, %.99q have %d in common, but a size of %d", old, new, n, size)
	}
}

// makes looks whether hunks make the new lines, and whether none of them touches another.
func makes(t *testing.T, old, new []string, l []hunk.Hunk) {
	t.Helper()
	if m := applied(t, old, l); !slices.Equal(m, new) {
		t.Fatalf("%.99q, %.200v: %.99q, not %.99q", old, l, m, new)
	}
	for i, h := range l {
		if !hunk.Right(h) {
			t.Fatalf("%.99v isn't right", h)
		}
		for _, other := range l[:i] {
			if h.At <= other.At+len(other.New) || !hunk.Apart(other, h) {
				t.Fatalf("%.99v touches %.99v", h, other)
			}
		}
	}
}

// P12.1, P12.2. All small rows, held against the words.
func TestSmall(t *testing.T) {
	for _, l := range small() {
		for _, old := range l {
			for _, new := range l {
				looks(t, old, new)
				hunks, _ := diff.Of(old, new)
				if m, n, e := hunk.All(old, hunks); !slices.Equal(m, new) || n != len(hunks) || e != api.OK {
					t.Fatalf("%q, %v: %q, %d, %d", old, hunks, m, n, e)
				}
			}
		}
	}
}

// P12.1, P12.2. Longer rows, of few lines and of many.
func TestLonger(t *testing.T) {
	r := rand.New(rand.NewSource(12))
	row := func(kinds int) []string {
		l := make([]string, r.Intn(60))
		for i := range l {
			l[i] = strings.Repeat("x", r.Intn(kinds))
		}
		return l
	}
	for i := range 600 {
		looks(t, row(2+i%40), row(2+i%40))
	}
}

// P12.1, P12.2. Rows of which some lines were dropped, put in or changed, up to the greatest count.
func TestChanged(t *testing.T) {
	r := rand.New(rand.NewSource(13))
	for i, n := range []int{1, 10, 100, 300, 900, 1000} {
		old := many("line ", n)
		var new []string
		for _, s := range old {
			switch r.Intn(5 + 20*i) {
			case 0:
			case 1:
				new = append(new, "in", s)
			case 2:
				new = append(new, "else")
			default:
				new = append(new, s)
			}
		}
		new = new[:min(len(new), 1000)]
		looks(t, old, new)
		looks(t, new, old)
		looks(t, old, old)
	}
}

// distances are how many lines must be dropped or put in, one by one, to come from a row to each other one of at most so many lines a, b.
func distances(from []string, most int) map[string]int {
	away := map[string]int{hunk.Text(from): 0}
	for work := [][]string{from}; len(work) > 0; work = work[1:] {
		l := work[0]
		for i := range len(l) + 1 {
			var next [][]string
			if i < len(l) {
				next = append(next, slices.Concat(l[:i], l[i+1:]))
			}
			if len(l) < most {
				next = append(next, slices.Concat(l[:i], []string{"a"}, l[i:]), slices.Concat(l[:i], []string{"b"}, l[i:]))
			}
			for _, m := range next {
				if _, ok := away[hunk.Text(m)]; !ok {
					away[hunk.Text(m)] = away[hunk.Text(l)] + 1
					work = append(work, m)
				}
			}
		}
	}
	return away
}

// P12.2. No other hunks have a lesser Size: whatever hunks do can be done line by line.
func TestLeast(t *testing.T) {
	l := rows([]string{"a", "b"}, 5)
	for _, old := range l {
		away := distances(old, 7)
		for _, new := range l {
			hunks, _ := diff.Of(old, new)
			if size := diff.Size(hunks); size != away[hunk.Text(new)] {
				t.Fatalf("%q, %q: %v, of %d, not %d", old, new, hunks, size, away[hunk.Text(new)])
			}
		}
	}
}

// P12.1. Where several ways are as short, which one is gone.
func TestWhichWay(t *testing.T) {
	for _, x := range []struct {
		old, new string
		want     []hunk.Hunk
	}{
		{"abc", "axc", []hunk.Hunk{{At: 1, Old: []string{"b"}, New: []string{"x"}}}},
		{"ab", "ba", []hunk.Hunk{{At: 0, Old: []string{"a"}}, {At: 1, New: []string{"a"}}}},
		{"ba", "ab", []hunk.Hunk{{At: 0, Old: []string{"b"}}, {At: 1, New: []string{"b"}}}},
		{"a", "aa", []hunk.Hunk{{At: 1, New: []string{"a"}}}},
		{"aa", "a", []hunk.Hunk{{At: 1, Old: []string{"a"}}}},
		{"aba", "a", []hunk.Hunk{{At: 1, Old: []string{"b", "a"}}}},
		{"abab", "ab", []hunk.Hunk{{At: 2, Old: []string{"a", "b"}}}},
		{"aab", "ab", []hunk.Hunk{{At: 1, Old: []string{"a"}}}},
		{"abc", "cab", []hunk.Hunk{{At: 0, New: []string{"c"}}, {At: 3, Old: []string{"c"}}}},
		{"abc", "cba", []hunk.Hunk{{At: 0, Old: []string{"a", "b"}}, {At: 1, New: []string{"b", "a"}}}},
		{"abcd", "bxdy", []hunk.Hunk{{At: 0, Old: []string{"a"}}, {At: 1, Old: []string{"c"}, New: []string{"x"}}, {At: 3, New: []string{"y"}}}},
		{"ab", "xy", []hunk.Hunk{{Old: []string{"a", "b"}, New: []string{"x", "y"}}}},
		{"", "xy", []hunk.Hunk{{New: []string{"x", "y"}}}},
		{"xy", "", []hunk.Hunk{{Old: []string{"x", "y"}}}},
		{"xy", "xy", nil},
		{"", "", nil},
	} {
		old, new := strings.Split(x.old, ""), strings.Split(x.new, "")
		l, e := diff.Of(old, new)
		if !same(l, x.want) || e != api.OK {
			t.Errorf("%s, %s: %v, %d", x.old, x.new, l, e)
		}
	}
}

// P12.1, P12.2. As many lines as may be, each as long as may be.
func TestGreatest(t *testing.T) {
	full, other := many("a", 1000), many("b", 1000)
	long := slices.Repeat([]string{strings.Repeat("x", 199) + "a", strings.Repeat("x", 199) + "b"}, 500)
	turned := slices.Clone(full)
	slices.Reverse(turned)
	for _, x := range []struct {
		old, new            []string
		common, count, size int
	}{
		{full, other, 0, 1, 2000}, {full, full, 1000, 0, 0}, {full, nil, 0, 1, 1000}, {nil, full, 0, 1, 1000}, {full, turned, 1, 2, 1998}, {long, long[1:], 999, 1, 1}, {long[1:], long, 999, 1, 1}, {long, long, 1000, 0, 0},
		{full, append(slices.Clone(full[:999]), "b"), 999, 1, 2}, {make([]string, 1000), make([]string, 999), 999, 1, 1}, {make([]string, 1000), full, 0, 1, 2000},
		{full, append([]string{"b"}, full[:999]...), 999, 2, 2}, {full, append(slices.Clone(full[1:]), "b"), 999, 2, 2},
	} {
		n, e := diff.Common(x.old, x.new)
		l, f := diff.Of(x.old, x.new)
		if n != x.common || e != api.OK || f != api.OK || len(l) != x.count || diff.Size(l) != x.size {
			t.Errorf("%.30q, %.30q: %d, %d; %d, %d; %d", x.old, x.new, n, e, len(l), f, diff.Size(l))
		}
		makes(t, x.old, x.new, l)
	}
}

// P12.1. The hunks hang on the rows alone, even where as many lines as may be leave no room for those that come first.
func TestWithoutRoom(t *testing.T) {
	old := many("a", 1000)
	new := append([]string{"b"}, old[:999]...)
	l, _ := diff.Of(old, new)
	if !same(l, []hunk.Hunk{{New: []string{"b"}}, {At: 1000, Old: old[999:]}}) {
		t.Fatalf("%v", l)
	}
	if m, n, e := hunk.All(old, l); len(m) > 0 || n != 0 || e != api.ErrLong {
		t.Error(len(m), n, e)
	}
}

// wrong are rows of lines that aren't right.
func wrong() [][]string {
	return [][]string{
		{"\n"}, {"a\nb"}, {"a", "b\n"}, {strings.Repeat("a", 201)}, {"a", strings.Repeat("a", 201), "b"}, many("a", 1001), make([]string, 1001), make([]string, 1<<20), append(many("a", 999), "\nb"),
	}
}

// P12.1. Wrong lines on either side, or on both.
func TestWrong(t *testing.T) {
	for _, l := range wrong() {
		for _, other := range append(wrong(), nil, []string{}, []string{"a"}, many("a", 1000), l) {
			for _, x := range [][2][]string{{l, other}, {other, l}} {
				if n, e := diff.Common(x[0], x[1]); n != 0 || e != api.ErrForm {
					t.Errorf("%.30q, %.30q: %d, %d", x[0], x[1], n, e)
				}
				if l, e := diff.Of(x[0], x[1]); len(l) != 0 || e != api.ErrForm {
					t.Errorf("%.30q, %.30q: %d hunks, %d", x[0], x[1], len(l), e)
				}
			}
		}
	}
}

// P12.1. Lines are bytes of any kind, and nil and empty rows are one.
func TestBytes(t *testing.T) {
	odd := []string{"", "\x00", "\xff", "\r", "\u00e4", "\xc3\xa4", "a\x00", "a "}
	for _, s := range odd {
		for _, x := range odd {
			looks(t, []string{s, x}, []string{x, s})
			looks(t, []string{s}, []string{x})
		}
	}
	looks(t, nil, []string{})
	looks(t, []string{}, nil)
	looks(t, nil, nil)
}

// P12.1. Of any hunks, right or not.
func TestSize(t *testing.T) {
	for _, x := range []struct {
		l    []hunk.Hunk
		size int
	}{
		{nil, 0}, {[]hunk.Hunk{}, 0}, {[]hunk.Hunk{{}}, 0}, {[]hunk.Hunk{{At: 7}, {At: -7}}, 0},
		{[]hunk.Hunk{{Old: []string{"a"}}}, 1}, {[]hunk.Hunk{{New: []string{"a"}}}, 1}, {[]hunk.Hunk{{Old: []string{"a"}, New: []string{"a"}}}, 2},
		{[]hunk.Hunk{{At: -1, Old: []string{"\n", ""}, New: make([]string, 5000)}, {Old: []string{"a"}}, {New: make([]string, 10)}}, 5013},
		{slices.Repeat([]hunk.Hunk{{Old: []string{"a"}, New: []string{"b", "c"}}}, 100), 300},
	} {
		if n := diff.Size(x.l); n != x.size {
			t.Errorf("%.99v: %d, not %d", x.l, n, x.size)
		}
	}
}

// spoil changes a row, its spare room too.
func spoil(l []string) {
	for i := range l[:cap(l)] {
		l[:cap(l)][i] = "spoilt"
	}
}

// P12.1. What is handed in is neither changed nor kept, its spare room neither; what is told shares nothing.
func TestMemory(t *testing.T) {
	room, more := strings.Split("abcdefgh", ""), strings.Split("xcydezuv", "")
	old, new := room[:5], more[:6]
	before, after := slices.Clone(room), slices.Clone(more)
	diff.Common(old, new)
	l, _ := diff.Of(old, new)
	again, _ := diff.Of(old, new)
	if !slices.Equal(room, before) || !slices.Equal(more, after) {
		t.Fatalf("%q, %q", room, more)
	}
	want := []hunk.Hunk{{Old: []string{"a", "b"}, New: []string{"x"}}, {At: 2, Old: nil, New: []string{"y"}}, {At: 5, New: []string{"z"}}}
	for _, h := range l {
		spoil(h.Old)
		spoil(h.New)
	}
	diff.Size(again)
	if !slices.Equal(room, before) || !slices.Equal(more, after) || !same(again, want) {
		t.Fatalf("%q, %q, %v", room, more, again)
	}
	spoil(room)
	spoil(more)
	if !same(again, want) {
		t.Errorf("%v", again)
	}
}

// P12.1. No row that is told is another one's, also where old and new lines are one row.
func TestMemoryOfRows(t *testing.T) {
	row := []string{"a", "b", "a", "b", "a"}
	l, _ := diff.Of(row[:4], row[1:])
	var told [][]string
	for _, h := range l {
		told = append(told, h.Old, h.New)
	}
	if len(l) < 2 {
		t.Fatalf("%v", l)
	}
	for i, r := range told {
		kept := slices.Clone(told)
		for j := range kept {
			kept[j] = slices.Clone(kept[j])
		}
		spoil(r)
		for j := range told {
			if j != i && !slices.Equal(told[j], kept[j]) {
				t.Fatalf("row %d changes row %d", i, j)
			}
		}
	}
	if !slices.Equal(row, []string{"a", "b", "a", "b", "a"}) {
		t.Errorf("%q", row)
	}
}
