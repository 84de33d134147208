package tag_test

import (
	"crypto/sha256"
	"encoding/binary"
	"slices"
	"strings"
	"testing"

	"quitclaim/api"
	"quitclaim/tag"
)

// want is what a tagged sum is the sum of, by the document's words.
func want(name string, parts ...string) string {
	b := append([]byte{byte(len(name))}, name...)
	for _, p := range parts {
		b = binary.BigEndian.AppendUint64(b, uint64(len(p)))
		b = append(b, p...)
	}
	return string(b)
}

// sum is the sum of a text, by another program's hand.
func sum(s string) api.Id { return sha256.Sum256([]byte(s)) }

// someNames are names of each length that is an edge, and of bytes of each kind.
func someNames() []string {
	l := []string{"", "a", "b", "ab", "\x00", "\x00\x00", "\x01a", "\xff", "\u00e4\u20ac", "quitclaim"}
	for _, n := range []int{63, 64, 127, 128, 254, 255} {
		l = append(l, strings.Repeat("n", n))
	}
	return l
}

// someParts are rows of parts: none, empty ones, and such as would run into one another.
func someParts() [][]string {
	return [][]string{
		nil,
		{},
		{""},
		{"", ""},
		{"", "", ""},
		{"a"},
		{"", "a"},
		{"a", ""},
		{"bc"},
		{"b", "c"},
		{"c", "b"},
		{"\x00"},
		{"\x00\x00\x00\x00\x00\x00\x00\x00"},
		{"\x00\x00\x00\x00\x00\x00\x00\x01a"},
		{"\xff\xfe", "\u20ac"},
		{strings.Repeat("x", 255)},
		{strings.Repeat("x", 256)},
		{strings.Repeat("x", 257), "y"},
		{strings.Repeat("x", 70000), strings.Repeat("y", 300), "z"},
		slices.Repeat([]string{"ab", ""}, 100),
	}
}

// P3.1.
func TestTextAndOf(t *testing.T) {
	for _, name := range someNames() {
		for _, parts := range someParts() {
			w := want(name, parts...)
			if got, e := tag.Text(name, parts...); got != w || e != api.OK {
				t.Fatalf("Text(%q, %.40q) is %.40q, %d", name, parts, got, e)
			}
			if got, e := tag.Of(name, parts...); got != sum(w) || e != api.OK {
				t.Fatalf("Of(%q, %.40q) is %x, %d", name, parts, got, e)
			}
		}
	}
}

// P3.1.
func TestOfTheDocument(t *testing.T) {
	s := "\x01\x61\x00\x00\x00\x00\x00\x00\x00\x02\x62\x63"
	if got, e := tag.Text("a", "bc"); got != s || e != api.OK {
		t.Errorf("%q, %d", got, e)
	}
	if got, e := tag.Of("a", "bc"); got != sum(s) || e != api.OK {
		t.Errorf("%x, %d", got, e)
	}
	if got, e := tag.Text(""); got != "\x00" || e != api.OK {
		t.Errorf("%q, %d", got, e)
	}
}

// P3.1. A part of more than a megabyte, whose length has a third byte.
func TestLongPart(t *testing.T) {
	p := strings.Repeat("0123456789abcdef", 1<<16+1)
	w := "\x01n\x00\x00\x00\x00\x00\x10\x00\x10" + p
	if got, e := tag.Text("n", p); got != w || e != api.OK {
		t.Errorf("%.40q, %d", got, e)
	}
	if got, e := tag.Of("n", p); got != sum(w) || e != api.OK {
		t.Errorf("%x, %d", got, e)
	}
}

// P3.1.
func TestNameTooLong(t *testing.T) {
	for _, n := range []int{256, 257, 300, 511, 512, 513, 65536} {
		name := strings.Repeat("n", n)
		for _, parts := range [][]string{nil, {""}, {"a", "b"}} {
			if got, e := tag.Text(name, parts...); got != "" || e != api.ErrLong {
				t.Errorf("Text of %d bytes: %.40q, %d", n, got, e)
			}
			if got, e := tag.Of(name, parts...); got != (api.Id{}) || e != api.ErrLong {
				t.Errorf("Of of %d bytes: %x, %d", n, got, e)
			}
		}
	}
}

// full is an id each of whose bytes counts.
func full(first byte) api.Id {
	var a api.Id
	for i := range a {
		a[i] = first + byte(i)
	}
	return a
}

// someIds are ids, some of which differ at an end alone.
func someIds() []api.Id {
	return []api.Id{{}, {1}, {31: 1}, {0: 255, 31: 255}, full(0), full(1), full(240), sum("a")}
}

// clipped is a name's first 255 bytes.
func clipped(name string) string {
	if len(name) > 255 {
		return name[:255]
	}
	return name
}

// longNames are someNames, and longer ones.
func longNames() []string {
	long := strings.Repeat("m", 254) + "xyz"
	return append(someNames(), long, long[:256], strings.Repeat("n", 256), strings.Repeat("n", 600))
}

// P3.1.
func TestPair(t *testing.T) {
	for _, name := range longNames() {
		for _, a := range someIds() {
			for _, b := range someIds() {
				w := sum(want(clipped(name), string(a[:]), string(b[:])))
				if got := tag.Pair(name, a, b); got != w {
					t.Fatalf("Pair(%.40q, %x, %x) is %x", name, a, b, got)
				}
			}
		}
	}
}

// P3.1.
func TestChain(t *testing.T) {
	all := slices.Concat(someIds(), someIds(), []api.Id{full(7), full(7)})
	for _, name := range longNames() {
		text := ""
		for n := range len(all) + 1 {
			w := sum(want(clipped(name), text))
			if got := tag.Chain(name, all[:n]); got != w {
				t.Fatalf("Chain(%.40q, %x) is %x", name, all[:n], got)
			}
			if n < len(all) {
				text += string(all[n][:])
			}
		}
		if tag.Chain(name, nil) != tag.Chain(name, []api.Id{}) {
			t.Error("nil and empty rows are one")
		}
	}
}

// The Rules: what is handed in isn't changed, its spare room neither.
func TestHandedIn(t *testing.T) {
	parts := []string{"a", "b", "c"}
	tag.Text("n", parts[:1]...)
	tag.Of("n", parts[:2]...)
	if !slices.Equal(parts, []string{"a", "b", "c"}) {
		t.Error(parts)
	}
	l := []api.Id{{1}, {2}, {3}}
	tag.Chain("n", l[:2])
	if !slices.Equal(l, []api.Id{{1}, {2}, {3}}) {
		t.Error(l)
	}
}

// rows are all rows of at most so many of these texts.
func rows(texts []string, most int) [][]string {
	all := [][]string{nil}
	for begin := 0; most > 0; most-- {
		end := len(all)
		for _, r := range all[begin:end] {
			for _, s := range texts {
				all = append(all, append(slices.Clone(r), s))
			}
		}
		begin = end
	}
	return all
}

// P3.2. Names and parts that look like lengths, and like one another.
func TestNoTwoTexts(t *testing.T) {
	zeros := strings.Repeat("\x00", 7)
	parts := []string{"", "\x00", zeros + "\x00", zeros + "\x01", "a", zeros + "\x01a", "aa"}
	names := []string{"", "\x00", zeros, zeros + "\x00", "a", "aa", "\x01", "\x01a", "a" + zeros + "\x00", "a" + zeros + "\x01a"}
	seen := map[string]string{}
	for _, name := range names {
		for _, r := range rows(parts, 4) {
			s, e := tag.Text(name, r...)
			if e != api.OK {
				t.Fatal(name, r, e)
			}
			row := name + "|" + strings.Join(r, "|")
			if other, ok := seen[s]; ok {
				t.Fatalf("%q and %q: %q", other, row, s)
			}
			seen[s] = row
		}
	}
}
