package recon_test

import (
	"math"
	"math/rand"
	"slices"
	"strings"
	"testing"

	"quitclaim/api"
	"quitclaim/merkle"
	"quitclaim/recon"
)

// prime is what tallies are reckoned modulo, by the words.
const prime = 65519

// tallyOf is a row's tally, in whole numbers.
func tallyOf(l []api.Id) complex128 {
	x, y := 1, 0
	for _, a := range l {
		re, im := (int(a[0])<<8|int(a[1]))%prime, (int(a[2])<<8|int(a[3]))%prime
		if re == 0 && im == 0 {
			re = 1
		}
		x, y = ((x*re-y*im)%prime+prime)%prime, (x*im+y*re)%prime
	}
	return complex(float64(x), float64(y))
}

// ahead is the order of ids.
func ahead(a, b api.Id) int { return slices.Compare(a[:], b[:]) }

// summaryOf is a row's summary, by the words.
func summaryOf(l []api.Id) recon.Summary {
	sum, e := merkle.Sum(l)
	if e != api.OK {
		panic("a row that doesn't rise")
	}
	return recon.Summary{Count: len(l), Tally: tallyOf(l), Sum: sum}
}

// leaving is a row without those at some places.
func leaving(l []api.Id, places ...int) []api.Id {
	var rest []api.Id
	for i, a := range l {
		if !slices.Contains(places, i) {
			rest = append(rest, a)
		}
	}
	return rest
}

// lackOf is what Lack tells of a row that rises, by the words.
func lackOf(l []api.Id, s recon.Summary) ([]api.Id, api.Errno) {
	if s.Count < 0 || s.Count > len(l) || len(l)-s.Count > 2 {
		return nil, api.ErrRange
	}
	if summaryOf(l) == s {
		return nil, api.OK
	}
	for i := range l {
		if summaryOf(leaving(l, i)) == s {
			return []api.Id{l[i]}, api.OK
		}
		for k := range l[i+1:] {
			if summaryOf(leaving(l, i, i+1+k)) == s {
				return []api.Id{l[i], l[i+1+k]}, api.OK
			}
		}
	}
	return nil, api.ErrNone
}

// rising is a row of so many ids by chance, with so many first bytes.
func rising(r *rand.Rand, n, first int) []api.Id {
	var l []api.Id
	for range n {
		var a api.Id
		r.Read(a[:])
		a[0], a[1] = 0, byte(r.Intn(first))
		if first > 256 {
			a[0], a[1] = byte(r.Int()), byte(r.Int())
		}
		l = append(l, a)
	}
	slices.SortFunc(l, ahead)
	return slices.Compact(l)
}

// alike are so many ids all of one residue.
func alike(n int, a api.Id) []api.Id {
	var l []api.Id
	for i := range n {
		a[30], a[31] = byte(i>>8), byte(i)
		l = append(l, a)
	}
	return l
}

// unordered are rows that don't rise.
func unordered() [][]api.Id {
	return [][]api.Id{{{1}, {1}}, {{2}, {1}}, {{}, {}}, {{1}, {3}, {2}}, {{1}, {2}, {2}}, {{31: 1}, {}}}
}

// rows are such as rise: empty, small, with residues that come again, whose products come again, with parts of 0, and by chance.
func rows() [][]api.Id {
	r := rand.New(rand.NewSource(23))
	l := [][]api.Id{
		nil, {}, {{}}, {{255}}, {{1}, {2}, {3}}, {{}, {31: 1}, {0, 1}, {0, 1, 0, 0, 5}, {0xFF, 0xEF}},
		{{0, 1}, {0, 2}, {0, 3}, {0, 4}, {0, 6}, {0, 8}, {0, 12}, {0, 24}}, // products that come again
		{{0, 0, 0, 1}, {0, 0, 0, 1, 1}, {0, 0, 0, 2}, {0, 1}, {0, 2}, {0xFF, 0xEE}, {0xFF, 0xEE, 1}},
		alike(7, api.Id{0, 2}), alike(6, api.Id{0xFF, 0xFF, 0xFF, 0xFF}), alike(6, api.Id{}),
	}
	for n := range 9 {
		l = append(l, rising(r, n, 300), rising(r, n, 4))
	}
	return l
}

// P23.1. A summary is of all ids, and of rows that rise alone.
func TestOf(t *testing.T) {
	for _, l := range rows() {
		if s, e := recon.Of(l); e != api.OK || s != summaryOf(l) {
			t.Errorf("%x: %v, %d", l, s, e)
		}
	}
	for _, l := range unordered() {
		if s, e := recon.Of(l); e != api.ErrOrder || s != (recon.Summary{}) {
			t.Errorf("%x: %v, %d", l, s, e)
		}
	}
	s, _ := recon.Of(nil)
	if none, _ := merkle.Sum(nil); s.Count != 0 || s.Tally != 1 || s.Sum != none {
		t.Error(s)
	}
}

// lacks asks Lack, and holds it against the words.
func lacks(t *testing.T, l []api.Id, s recon.Summary) []api.Id {
	t.Helper()
	got, e := recon.Lack(l, s)
	if want, is := lackOf(l, s); e != is || !slices.Equal(got, want) {
		t.Fatalf("%x by %v: %x, %d, not %x, %d", l, s, got, e, want, is)
	}
	return got
}

// P23.1. What is left out of a row, up to two ids, is told; more aren't.
func TestLack(t *testing.T) {
	for _, l := range rows() {
		lacks(t, l, summaryOf(l))
		for i := range l {
			if got := lacks(t, l, summaryOf(leaving(l, i))); !slices.Equal(got, l[i:i+1]) {
				t.Errorf("%x: %x", l, got)
			}
			for k := i + 1; k < len(l); k++ {
				if got := lacks(t, l, summaryOf(leaving(l, i, k))); !slices.Equal(got, []api.Id{l[i], l[k]}) {
					t.Errorf("%x: %x", l, got)
				}
				if k > i+1 {
					lacks(t, l, summaryOf(leaving(l, i, i+1, k)))
				}
			}
		}
	}
	l := []api.Id{{1}, {2}, {3}}
	if got, e := recon.Lack(l, summaryOf([]api.Id{{1}, {3}})); e != api.OK || !slices.Equal(got, l[1:2]) {
		t.Error(got, e)
	}
}

// changed are summaries that differ from one in one field.
func changed(s recon.Summary) []recon.Summary {
	var l []recon.Summary
	for _, n := range []int{-1, 0, 1, 2, s.Count - 3, s.Count - 2, s.Count - 1, s.Count + 1, s.Count + 2, s.Count + 3, math.MinInt, math.MinInt + 2, math.MaxInt, math.MaxInt - 2} {
		l = append(l, recon.Summary{Count: n, Tally: s.Tally, Sum: s.Sum})
	}
	re, im, nan, inf := real(s.Tally), imag(s.Tally), math.NaN(), math.Inf(1)
	for _, c := range []complex128{0, 1, 1i, -1, complex(im, re), s.Tally + 1, s.Tally + 1i, s.Tally - 1, -s.Tally, s.Tally + 0.5, s.Tally + prime, s.Tally + prime*1i, s.Tally - prime, complex(nan, im), complex(re, nan), complex(nan, nan), complex(inf, im), complex(re, -inf), complex(inf, nan), complex(1e300, im), complex(math.Copysign(0, -1), im), complex(re, math.Copysign(0, -1))} {
		l = append(l, recon.Summary{Count: s.Count, Tally: c, Sum: s.Sum})
	}
	for _, i := range []int{0, 15, 31} {
		x := s
		x.Sum[i] ^= 1
		l = append(l, x)
	}
	return append(l, recon.Summary{Count: s.Count, Tally: s.Tally})
}

// P23.1. Summaries of no row, and of none that lacks ids of this one: each number of one of them counts.
func TestWrongSummaries(t *testing.T) {
	for _, l := range rows() {
		for _, s := range changed(summaryOf(l)) {
			lacks(t, l, s)
		}
		for i := range l {
			for _, k := range []int{i, (i + 1) % len(l), len(l) - 1} {
				for _, s := range changed(summaryOf(leaving(l, i, k))) {
					lacks(t, l, s)
				}
			}
		}
		lacks(t, l, recon.Summary{})
		last := api.Id([]byte(strings.Repeat("\xff", 32)))
		lacks(t, l, summaryOf(append(slices.Clone(l), last)))
		if len(l) > 0 { // of as many ids, one of them another one
			lacks(t, l, summaryOf(append(leaving(l, 0), last)))
		}
	}
}

// P23.1. A tally with -0 is one with 0.
func TestNoSign(t *testing.T) {
	minus := math.Copysign(0, -1)
	for _, l := range [][]api.Id{nil, {{1}}, {{1}, {2}}, {{0, 0, 0, 5}, {1}}} {
		with := append(slices.Clone(l), api.Id{250}, api.Id{251, 1, 2, 3})
		for n := len(l); n <= len(with); n++ {
			s := summaryOf(l)
			if real(s.Tally) == 0 {
				s.Tally = complex(minus, imag(s.Tally))
			} else {
				s.Tally = complex(real(s.Tally), minus)
			}
			if got, e := recon.Lack(with[:n], s); e != api.OK || !slices.Equal(got, with[len(l):n]) {
				t.Errorf("%x: %x, %d", with[:n], got, e)
			}
		}
	}
}

// P23.1. The errors in their order.
func TestErrorsOfLack(t *testing.T) {
	for _, l := range unordered() {
		for _, n := range []int{-1, 0, len(l) - 3, len(l) - 1, len(l), len(l) + 1, math.MaxInt, math.MinInt} {
			if got, e := recon.Lack(l, recon.Summary{Count: n, Tally: 1}); e != api.ErrOrder || len(got) != 0 {
				t.Errorf("%x, %d: %x, %d", l, n, got, e)
			}
		}
	}
	l := rising(rand.New(rand.NewSource(1)), 12, 300)
	for n := -2; n <= len(l)+2; n++ {
		want := api.ErrNone
		if n < len(l)-2 || n > len(l) {
			want = api.ErrRange
		}
		if got, e := recon.Lack(l, recon.Summary{Count: n, Tally: 1}); e != want || len(got) != 0 {
			t.Errorf("%d: %x, %d", n, got, e)
		}
	}
}

// P23.1. Of long rows, those that lack may stand anywhere; residues that come again lead nowhere else.
func TestLongRows(t *testing.T) {
	r := rand.New(rand.NewSource(24))
	for _, l := range [][]api.Id{rising(r, 1000, 300), alike(48, api.Id{7, 7, 7, 7}), slices.Concat(alike(20, api.Id{0, 2}), alike(20, api.Id{0, 3}), alike(20, api.Id{0, 6}))} {
		n := len(l)
		for _, p := range [][2]int{{0, 1}, {0, n - 1}, {n - 2, n - 1}, {n / 2, n/2 + 1}, {1, n / 3}, {n / 3, n - 3}} {
			for _, places := range [][]int{{p[0]}, {p[1]}, p[:]} {
				var want []api.Id
				for _, i := range places {
					want = append(want, l[i])
				}
				if got, e := recon.Lack(l, summaryOf(leaving(l, places...))); e != api.OK || !slices.Equal(got, want) {
					t.Errorf("%v: %x, %d", places, got, e)
				}
			}
		}
		s := summaryOf(leaving(l, 0, 2))
		s.Sum[9]++
		if got, e := recon.Lack(l, s); e != api.ErrNone || len(got) != 0 {
			t.Errorf("%x, %d", got, e)
		}
	}
}

// number is the number of an id's bucket, by the words.
func number(a api.Id, bits int) int { return int(a[0]) >> (8 - bits) }

// bucketOf are the ids of a bucket, by the words.
func bucketOf(l []api.Id, bits, i int) []api.Id {
	var in []api.Id
	for _, a := range l {
		if number(a, bits) == i {
			in = append(in, a)
		}
	}
	return in
}

// anyRows are rows of ids in any order, each as often as it comes.
func anyRows() [][]api.Id {
	r := rand.New(rand.NewSource(25))
	l := append(rows(), unordered()...)
	l = append(l, []api.Id{{0x80}, {0x80}, {0x7F}, {0x40}, {0xFF}, {}, {1}, {0x80}})
	for n := range 4 {
		x := rising(r, 40*n, 300)
		r.Shuffle(len(x), func(i, k int) { x[i], x[k] = x[k], x[i] })
		l = append(l, append(x, x[:n]...))
	}
	var each []api.Id
	for i := range 256 {
		each = append(each, api.Id{byte(i), 3, byte(i), 4})
	}
	return append(l, each)
}

// P23.1. Buckets, and what is in them, of any ids by each number of bits.
func TestBuckets(t *testing.T) {
	for _, l := range anyRows() {
		for bits := range 9 {
			b, e := recon.Buckets(l, bits)
			if e != api.OK || len(b) != 1<<bits {
				t.Fatalf("%d: %d, %d", bits, len(b), e)
			}
			for i := -2; i <= 1<<bits+1; i++ {
				in := bucketOf(l, bits, i)
				if got := recon.In(l, bits, i); !slices.Equal(got, in) {
					t.Fatalf("%d, %d: %x, not %x", bits, i, got, in)
				}
				if i >= 0 && i < 1<<bits && b[i] != tallyOf(in) {
					t.Fatalf("%d, %d: %v, not %v", bits, i, b[i], tallyOf(in))
				}
			}
			for _, i := range []int{-1 << 8, 256, 512, math.MinInt, math.MaxInt} {
				if got := recon.In(l, bits, i); len(got) != 0 {
					t.Errorf("%d, %d: %x", bits, i, got)
				}
			}
		}
		for _, bits := range []int{-1, 9, 10, 64, 65, -8, 1 << 32, math.MinInt, math.MaxInt} {
			if b, e := recon.Buckets(l, bits); e != api.ErrRange || len(b) != 0 {
				t.Errorf("%d: %v, %d", bits, b, e)
			}
			for _, i := range []int{-1, 0, 1, 256, 511} {
				if got := recon.In(l, bits, i); len(got) != 0 {
					t.Errorf("%d, %d: %x", bits, i, got)
				}
			}
		}
	}
}

// P23.1. Buckets that differ, of any numbers; rows of unlike lengths are told apart first.
func TestUnlike(t *testing.T) {
	minus, nan, inf := math.Copysign(0, -1), math.NaN(), math.Inf(1)
	for _, x := range []struct {
		a, b []complex128
		want []int
		e    api.Errno
	}{
		{nil, nil, nil, api.OK}, {nil, []complex128{}, nil, api.OK}, {nil, []complex128{1}, nil, api.ErrForm}, {[]complex128{1}, nil, nil, api.ErrForm},
		{[]complex128{1, 2}, []complex128{1, 2, 3}, nil, api.ErrForm}, {[]complex128{1, 2, 3}, []complex128{4, 5}, nil, api.ErrForm},
		{[]complex128{1, 2, 3}, []complex128{1, 2, 3}, nil, api.OK}, {[]complex128{1, 2, 3}, []complex128{3, 2, 1}, []int{0, 2}, api.OK},
		{[]complex128{5}, []complex128{5 + 1i}, []int{0}, api.OK}, {[]complex128{5i, 5i}, []complex128{6i, 5i}, []int{0}, api.OK},
		{[]complex128{1, 2, 3}, []complex128{4, 5, 6}, []int{0, 1, 2}, api.OK},
		{[]complex128{0, complex(minus, 1), complex(3, minus)}, []complex128{complex(minus, minus), 1i, 3}, nil, api.OK},
		{[]complex128{complex(nan, 0), 1, complex(inf, 0), complex(inf, 0), 0.5}, []complex128{complex(nan, 0), 1, complex(inf, 0), complex(-inf, 0), 0.25}, []int{0, 3, 4}, api.OK},
	} {
		if got, e := recon.Unlike(x.a, x.b); e != x.e || !slices.Equal(got, x.want) {
			t.Errorf("%v, %v: %v, %d", x.a, x.b, got, e)
		}
	}
}

// P23.2. What one has and another one doesn't stands in a bucket that is unlike, or whose tallies are the same by chance; like rows, in whatever order, have like buckets.
func TestBucketsTell(t *testing.T) {
	r := rand.New(rand.NewSource(26))
	pool := append(rising(r, 30, 300), alike(4, api.Id{0, 1})...)
	chance := 0
	for try := range 2000 {
		var a, b []api.Id
		for _, x := range pool {
			if v := r.Intn(5); v > 0 {
				a = append(a, x)
			}
			if v := r.Intn(5); v > 0 && try%4 > 0 {
				b = append(b, x)
			}
		}
		if try%5 == 0 {
			b = slices.Clone(a)
			r.Shuffle(len(b), func(i, k int) { b[i], b[k] = b[k], b[i] })
		}
		bits := try % 9
		x, _ := recon.Buckets(a, bits)
		y, _ := recon.Buckets(b, bits)
		unlike, e := recon.Unlike(x, y)
		if e != api.OK || try%5 == 0 && len(unlike) != 0 {
			t.Fatal(unlike, e)
		}
		for i := range x {
			in, of := bucketOf(a, bits, i), bucketOf(b, bits, i)
			if slices.Contains(unlike, i) != (tallyOf(in) != tallyOf(of)) {
				t.Fatalf("%d of %d bits: %v", i, bits, unlike)
			}
			slices.SortFunc(in, ahead)
			slices.SortFunc(of, ahead)
			if !slices.Contains(unlike, i) && !slices.Equal(in, of) {
				chance++
			}
		}
	}
	if chance == 0 {
		t.Error("no tallies that are the same by chance")
	}
	x, _ := recon.Buckets([]api.Id{{0, 2}, {0, 6}}, 8)
	y, _ := recon.Buckets([]api.Id{{0, 3}, {0, 4}}, 8)
	if l, e := recon.Unlike(x, y); len(l) != 0 || e != api.OK {
		t.Error(l, e)
	}
}

// P23.1. What is handed in isn't changed, its spare room neither; what is told is new memory.
func TestMemory(t *testing.T) {
	for _, row := range [][]api.Id{nil, {{1}}, {{1}, {2}, {3}}, alike(9, api.Id{1})} {
		l := append(slices.Clone(row), api.Id{77}, api.Id{78})[:len(row)]
		kept := slices.Clone(l[:len(row)+2])
		for places := range 3 {
			if places > len(row) {
				continue
			}
			s := summaryOf(row[places:])
			got, e := recon.Lack(l, s)
			for i := range got[:cap(got)] {
				got[:cap(got)][i] = api.Id{99}
			}
			if again, _ := recon.Lack(l, s); e != api.OK || !slices.Equal(again, row[:places]) {
				t.Errorf("%x: %x, %d", row, again, e)
			}
		}
		recon.Of(l)
		b, _ := recon.Buckets(l, 3)
		c, _ := recon.Buckets(l, 3)
		for i := range b {
			b[i] = 99
		}
		if d, _ := recon.Buckets(l, 3); !slices.Equal(c, d) {
			t.Error(c, d)
		}
		in := recon.In(l, 0, 0)
		for i := range in[:cap(in)] {
			in[:cap(in)][i] = api.Id{99}
		}
		if !slices.Equal(l[:len(row)+2], kept) || !slices.Equal(recon.In(l, 0, 0), row) {
			t.Errorf("%x", l[:len(row)+2])
		}
	}
	a, b := []complex128{1, 2, 3, 4}, []complex128{1, 5, 6, 7}
	l, _ := recon.Unlike(a[:3], b[:3])
	for i := range l[:cap(l)] {
		l[:cap(l)][i] = 99
	}
	if again, _ := recon.Unlike(a[:3], b[:3]); !slices.Equal(again, []int{1, 2}) || !slices.Equal(a, []complex128{1, 2, 3, 4}) || !slices.Equal(b, []complex128{1, 5, 6, 7}) {
		t.Error(a, b, again)
	}
}
