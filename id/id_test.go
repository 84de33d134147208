package id_test

import (
	"encoding/hex"
	"math"
	"math/big"
	"slices"
	"strings"
	"testing"

	"quitclaim/api"
	"quitclaim/id"
)

// full is an id each of whose bytes counts.
func full(first byte) api.Id {
	var a api.Id
	for i := range a {
		a[i] = first + 7*byte(i)
	}
	return a
}

// rising are ids in their order: unlike at the first byte, at the last one, and in between.
func rising() []api.Id {
	l := []api.Id{{}, {31: 1}, {31: 255}, {30: 1}, {15: 1}, {15: 128}, {1: 1}, {1: 255, 2: 255}, {1}, {0: 1, 31: 1}, {0: 1, 1: 1}, {2}, full(3), full(4), {127}, {0: 127, 31: 255}, {128}, full(200), {255}}
	last := api.Id{}
	for i := range last {
		last[i] = 255
	}
	return append(l, last)
}

// P4.1.
func TestLess(t *testing.T) {
	l := rising()
	for i, a := range l {
		for j, b := range l {
			if got := id.Less(a, b); got != (i < j) {
				t.Errorf("Less(%x, %x) is %v", a, b, got)
			}
		}
	}
	if !id.Less(api.Id{1}, api.Id{1, 1}) || id.Less(api.Id{1, 1}, api.Id{1}) {
		t.Error("bytes behind the first one")
	}
}

// P4.1, P4.2.
func TestHexAndParse(t *testing.T) {
	all := rising()
	for first := range 256 {
		all = append(all, full(byte(first)))
	}
	for _, a := range all {
		s := id.Hex(a)
		if s != hex.EncodeToString(a[:]) {
			t.Fatalf("Hex(%x) is %s", a, s)
		}
		if b, e := id.Parse(s); b != a || e != api.OK {
			t.Fatalf("Parse(%s) is %x, %d", s, b, e)
		}
	}
	if s := id.Hex(api.Id{0xab, 0xcd, 31: 0x0f}); s != "abcd"+strings.Repeat("0", 59)+"f" {
		t.Error(s)
	}
}

// P4.1. At each place of a text, each byte that is no digit.
func TestParseOtherBytes(t *testing.T) {
	text := strings.Repeat("0123456789abcdef", 4)
	for i := range text {
		for c := range 256 {
			s := text[:i] + string([]byte{byte(c)}) + text[i+1:]
			a, e := id.Parse(s)
			want, err := hex.DecodeString(s)
			if err != nil || c >= 'A' && c <= 'F' {
				if a != (api.Id{}) || e != api.ErrForm {
					t.Fatalf("Parse(%q) is %x, %d", s, a, e)
				}
			} else if string(a[:]) != string(want) || e != api.OK {
				t.Fatalf("Parse(%q) is %x, %d", s, a, e)
			}
		}
	}
}

// P4.1.
func TestParseOtherLengths(t *testing.T) {
	for n := range 200 {
		a, e := id.Parse(strings.Repeat("1", n))
		if n == 64 {
			if a[0] != 0x11 || a[31] != 0x11 || e != api.OK {
				t.Errorf("%x, %d", a, e)
			}
		} else if a != (api.Id{}) || e != api.ErrForm {
			t.Errorf("%d digits: %x, %d", n, a, e)
		}
	}
	z := strings.Repeat("0", 64)
	for _, s := range []string{" " + z, z + " ", z + "\n", "0x" + z, "0x" + z[2:], "+" + z[1:], "-" + z[1:], "_" + z[1:], z[:62] + "\u00e4", strings.ToUpper(strings.Repeat("ab", 32))} {
		if a, e := id.Parse(s); a != (api.Id{}) || e != api.ErrForm {
			t.Errorf("Parse(%q) is %x, %d", s, a, e)
		}
	}
}

// P4.1.
func TestBytes(t *testing.T) {
	for _, a := range rising() {
		if b, e := id.Bytes(string(a[:])); b != a || e != api.OK {
			t.Errorf("Bytes(%q) is %x, %d", a[:], b, e)
		}
	}
	for n := range 130 {
		a, e := id.Bytes(strings.Repeat("\x01", n))
		if n == 32 {
			if a[0] != 1 || a[31] != 1 || e != api.OK {
				t.Errorf("%x, %d", a, e)
			}
		} else if a != (api.Id{}) || e != api.ErrForm {
			t.Errorf("%d bytes: %x, %d", n, a, e)
		}
	}
}

// P4.1.
func TestRises(t *testing.T) {
	l := rising()
	for n := range len(l) + 1 {
		if !id.Rises(l[:n]) {
			t.Errorf("%x", l[:n])
		}
	}
	for i := range l {
		for j := range i {
			swapped := slices.Clone(l)
			swapped[i], swapped[j] = swapped[j], swapped[i]
			twice := slices.Insert(slices.Clone(l), i, l[j])
			if id.Rises(swapped) || id.Rises(twice) {
				t.Fatal(i, j)
			}
		}
	}
	if !id.Rises(nil) || !id.Rises([]api.Id{}) || id.Rises([]api.Id{{1}, {1}}) || id.Rises([]api.Id{{}, {}}) {
		t.Error("edges")
	}
}

// P4.1.
func TestSort(t *testing.T) {
	l := rising()
	back := slices.Clone(l)
	slices.Reverse(back)
	var mixed []api.Id
	for i := range 3 * len(l) {
		mixed = append(mixed, l[i*7%len(l)])
	}
	for _, c := range []struct{ from, to []api.Id }{
		{nil, nil},
		{[]api.Id{}, nil},
		{[]api.Id{{}}, []api.Id{{}}},
		{[]api.Id{{5}, {5}, {5}}, []api.Id{{5}}},
		{[]api.Id{{3}, {1}, {3}, {2}}, []api.Id{{1}, {2}, {3}}},
		{l, l},
		{back, l},
		{slices.Concat(l, l), l},
		{slices.Concat(back, l, back), l},
		{mixed, l},
	} {
		was := slices.Clone(c.from)
		if got := id.Sort(c.from); !slices.Equal(got, c.to) {
			t.Errorf("Sort(%x) is %x", c.from, got)
		}
		if !slices.Equal(c.from, was) {
			t.Error("what was handed in is changed")
		}
	}
}

// subsets are rows that rise: all those of the ids of the first few bytes, odd ones.
func subsets(count int) [][]api.Id {
	var all [][]api.Id
	for bits := range 1 << count {
		var l []api.Id
		for i := range count {
			if bits>>i&1 == 1 {
				l = append(l, api.Id{0: byte(i / 2), 31: byte(2*(i%2) + 1)})
			}
		}
		all = append(all, l)
	}
	return all
}

// P4.1. Ids at each place, between two, and beyond both ends.
func TestPlaceAndHas(t *testing.T) {
	l := rising()
	for _, row := range append(subsets(6), l, l[1:], l[3:4]) {
		asked := slices.Concat(l, row)
		for i := range 4 {
			for j := range 5 {
				asked = append(asked, api.Id{0: byte(i), 31: byte(j)})
			}
		}
		for _, a := range asked {
			ahead := 0
			for _, b := range row {
				if string(b[:]) < string(a[:]) {
					ahead++
				}
			}
			if got := id.Place(row, a); got != ahead {
				t.Fatalf("Place(%x, %x) is %d, not %d", row, a, got, ahead)
			}
			if got := id.Has(row, a); got != slices.Contains(row, a) {
				t.Fatalf("Has(%x, %x) is %v", row, a, got)
			}
		}
	}
}

// filtered is the ids of a row that count.
func filtered(l []api.Id, counts func(api.Id) bool) []api.Id {
	var out []api.Id
	for _, a := range l {
		if counts(a) {
			out = append(out, a)
		}
	}
	return out
}

// P4.1.
func TestUnionMinusBoth(t *testing.T) {
	all := subsets(6)
	whole := all[len(all)-1]
	for _, a := range all {
		for _, b := range all {
			inA := func(x api.Id) bool { return slices.Contains(a, x) }
			inB := func(x api.Id) bool { return slices.Contains(b, x) }
			union := filtered(whole, func(x api.Id) bool { return inA(x) || inB(x) })
			if got := id.Union(a, b); !slices.Equal(got, union) {
				t.Fatalf("Union(%x, %x) is %x", a, b, got)
			}
			minus := filtered(whole, func(x api.Id) bool { return inA(x) && !inB(x) })
			if got := id.Minus(a, b); !slices.Equal(got, minus) {
				t.Fatalf("Minus(%x, %x) is %x", a, b, got)
			}
			both := filtered(whole, func(x api.Id) bool { return inA(x) && inB(x) })
			if got := id.Both(a, b); !slices.Equal(got, both) {
				t.Fatalf("Both(%x, %x) is %x", a, b, got)
			}
		}
	}
	if got := id.Union([]api.Id{{1}, {3}}, []api.Id{{2}, {3}}); !slices.Equal(got, []api.Id{{1}, {2}, {3}}) {
		t.Errorf("%x", got)
	}
}

// The Rules: rows that don't rise are answered somehow, without a panic and alike each time.
func TestRowsThatDontRise(t *testing.T) {
	back := rising()
	slices.Reverse(back)
	for _, l := range [][]api.Id{back, {{2}, {1}, {2}}, {{1}, {1}}} {
		for _, m := range [][]api.Id{nil, back, {{1}, {3}}, {{3}, {3}, {1}}} {
			if !slices.Equal(id.Union(l, m), id.Union(l, m)) || !slices.Equal(id.Minus(l, m), id.Minus(l, m)) || !slices.Equal(id.Both(l, m), id.Both(l, m)) {
				t.Errorf("%x, %x", l, m)
			}
		}
		if id.Place(l, api.Id{2}) != id.Place(l, api.Id{2}) || id.Has(l, api.Id{2}) != id.Has(l, api.Id{2}) {
			t.Errorf("%x", l)
		}
	}
}

// P4.1.
func TestSame(t *testing.T) {
	all := append(subsets(4), []api.Id{{2}, {1}}, []api.Id{{1}, {2}}, []api.Id{{1}, {1}}, []api.Id{{1}, {1}, {1}})
	for i, a := range all {
		for j, b := range all {
			if got := id.Same(a, slices.Clone(b)); got != (i == j) {
				t.Errorf("Same(%x, %x) is %v", a, b, got)
			}
		}
	}
	if !id.Same(nil, []api.Id{}) || !id.Same([]api.Id{}, nil) || id.Same(nil, []api.Id{{}}) || id.Same([]api.Id{{}}, nil) {
		t.Error("rows of nothing")
	}
}

// P4.1.
func TestBit(t *testing.T) {
	for _, a := range rising() {
		number := new(big.Int).SetBytes(a[:])
		for i := range 256 {
			if got := id.Bit(a, i); got != int(number.Bit(255-i)) {
				t.Fatalf("Bit(%x, %d) is %d", a, i, got)
			}
		}
		for _, i := range []int{math.MinInt, math.MinInt + 1, -256, -9, -8, -7, -1, 256, 257, 263, 264, 512, 1 << 32, math.MaxInt} {
			if got := id.Bit(a, i); got != 0 {
				t.Fatalf("Bit(%x, %d) is %d", a, i, got)
			}
		}
	}
	if id.Bit(api.Id{0x40}, 1) != 1 || id.Bit(api.Id{0x40}, 0) != 0 || id.Bit(api.Id{31: 1}, 255) != 1 {
		t.Error("the highest of the first byte is the first")
	}
}

// The Rules: what is told is new memory, and nothing of what is handed in is changed, its spare room neither.
func TestMemory(t *testing.T) {
	calls := []func(a, b []api.Id) []api.Id{
		id.Union, id.Minus, id.Both,
		func(a, _ []api.Id) []api.Id { return id.Sort(a) },
	}
	for i, call := range calls {
		for _, row := range [][]api.Id{nil, {{1}}, {{1}, {2}}, {{3}, {4}}} {
			a := []api.Id{{1}, {2}, {9}, {8}}
			b := append(slices.Clone(row), api.Id{7}, api.Id{6})
			first := slices.Clone(call(a[:2], b[:len(row)]))
			got := call(a[:2], b[:len(row)])
			for j := range got {
				got[j] = api.Id{99}
			}
			got = append(got, api.Id{99}, api.Id{99})
			if !slices.Equal(a, []api.Id{{1}, {2}, {9}, {8}}) || !slices.Equal(b, append(slices.Clone(row), api.Id{7}, api.Id{6})) {
				t.Error(i, a, b)
			}
			if again := call(a[:2], b[:len(row)]); !slices.Equal(again, first) || len(got) != len(first)+2 {
				t.Error(i, again, first)
			}
		}
	}
}
