package gauss_test

import (
	"math"
	"math/big"
	"math/rand"
	"slices"
	"testing"

	"quitclaim/api"
	"quitclaim/gauss"
)

// prime is what is reckoned modulo, by the words.
const prime = 65519

// number is a complex number whose parts are whole, held against residues.
type number struct{ a, b int64 }

// numberOf is a residue's.
func numberOf(c complex128) number { return number{int64(real(c)), int64(imag(c))} }

// residue is the residue of a number.
func (n number) residue() complex128 { return complex(rest(n.a), rest(n.b)) }

// rest is a remainder, from 0 on.
func rest(v int64) float64 {
	m := new(big.Int).Mod(big.NewInt(v), big.NewInt(prime))
	return float64(m.Int64())
}

// times is a product, reduced.
func (n number) times(m number) number {
	return numberOf(number{n.a*m.a - n.b*m.b, n.a*m.b + n.b*m.a}.residue())
}

// same tells whether a number is just the one that it should be, and a residue: -0 isn't 0 here.
func same(got, want complex128) bool {
	return got == want && gauss.Right(got)
}

// edges are parts of residues about their ends and of their middle.
func edges() []float64 {
	return []float64{0, 1, 2, 3, 255, 256, 32759, 32760, 65516, 65517, 65518}
}

// residues are all whose parts are edges, and so many by chance.
func residues(n int) []complex128 {
	r := rand.New(rand.NewSource(22))
	var l []complex128
	for _, x := range edges() {
		for _, y := range edges() {
			l = append(l, complex(x, y))
		}
	}
	for range n {
		l = append(l, complex(float64(r.Intn(prime)), float64(r.Intn(prime))))
	}
	return l
}

// parts are numbers that no residue has.
func parts() []float64 {
	return []float64{
		math.Copysign(0, -1), -1, -2, -65518, -65519, 65519, 65520, 65536, 131038, 1 << 32, 1 << 53, 1 << 62, 1 << 63, 1 << 64, -(1 << 63), 0.5, -0.5, 1.5, 65517.5, 65518.5, math.Nextafter(1, 2), math.Nextafter(0, 1), math.Nextafter(0, -1), math.Nextafter(65518, 0), math.Nextafter(65518, 65519), math.Nextafter(65519, 0),
		math.MaxFloat64, -math.MaxFloat64, math.SmallestNonzeroFloat64, math.NaN(), math.Inf(1), math.Inf(-1),
	}
}

// wrong are numbers that are no residues.
func wrong() []complex128 {
	var l []complex128
	for _, x := range parts() {
		for _, y := range append(parts(), edges()...) {
			l = append(l, complex(x, y))
		}
		for _, y := range edges() {
			l = append(l, complex(y, x))
		}
	}
	return l
}

// P22.1. What is a residue, and what isn't: -0 isn't.
func TestRight(t *testing.T) {
	for _, c := range residues(1000) {
		if !gauss.Right(c) {
			t.Errorf("%v", c)
		}
	}
	for _, c := range wrong() {
		if gauss.Right(c) {
			t.Errorf("%v", c)
		}
	}
	if gauss.Prime != prime || !big.NewInt(gauss.Prime).ProbablyPrime(20) || gauss.Prime%4 != 3 {
		t.Error(gauss.Prime)
	}
}

// P22.1. An id's residue is of its first four bytes; it is never 0.
func TestOf(t *testing.T) {
	for _, x := range []struct {
		a    api.Id
		want complex128
	}{
		{api.Id{}, 1}, {api.Id{4: 9, 31: 1}, 1}, {api.Id{0, 1}, 1}, {api.Id{0, 0, 0, 1}, 1i}, {api.Id{1}, 256}, {api.Id{0, 0, 1}, 256i}, {api.Id{1, 2, 3, 4, 5, 6}, complex(258, 772)},
		{api.Id{0xFF, 0xEE, 0xFF, 0xEE}, complex(65518, 65518)}, {api.Id{0xFF, 0xEF}, 1}, {api.Id{2: 0xFF, 3: 0xEF}, 1}, {api.Id{0xFF, 0xEF, 0xFF, 0xEF}, 1}, {api.Id{0xFF, 0xEF, 0, 1}, 1i}, {api.Id{0, 5, 0xFF, 0xEF}, 5},
		{api.Id{0xFF, 0xF0, 0xFF, 0xEF}, 1}, {api.Id{0xFF, 0xF0}, 1}, {api.Id{0xFF, 0xF1, 0xFF, 0xF0}, complex(2, 1)}, {api.Id{0xFF, 0xFF, 0xFF, 0xFF}, complex(16, 16)}, {api.Id{0, 0, 0xFF, 0xFF}, 16i},
	} {
		if got := gauss.Of(x.a); !same(got, x.want) {
			t.Errorf("%x: %v, not %v", x.a[:6], got, x.want)
		}
	}
	for v := range 1 << 16 {
		high, low := byte(v>>8), byte(v)
		first, second := gauss.Of(api.Id{high, low, 0, 7, 9}), gauss.Of(api.Id{0, 7, high, low, 9})
		if !same(first, complex(rest(int64(v)), 7)) || !same(second, complex(7, rest(int64(v)))) {
			t.Fatalf("%d: %v, %v", v, first, second)
		}
	}
}

// P22.1. Sums, differences and products, part by part, each a remainder.
func TestReckoned(t *testing.T) {
	l := residues(200)
	for _, x := range l {
		for _, y := range l {
			a, b := numberOf(x), numberOf(y)
			if got := gauss.Add(x, y); !same(got, number{a.a + b.a, a.b + b.b}.residue()) {
				t.Fatalf("%v + %v: %v", x, y, got)
			}
			if got := gauss.Sub(x, y); !same(got, number{a.a - b.a, a.b - b.b}.residue()) {
				t.Fatalf("%v - %v: %v", x, y, got)
			}
			if got := gauss.Mul(x, y); !same(got, a.times(b).residue()) {
				t.Fatalf("%v * %v: %v", x, y, got)
			}
		}
	}
}

// P22.1. Of numbers that are no residues all calls tell 0, false.
func TestWrong(t *testing.T) {
	for _, x := range wrong() {
		for _, y := range []complex128{0, 1, 1i, complex(65518, 65518), complex(3, 4), x, complex(math.NaN(), 1)} {
			for name, c := range map[string]complex128{"add": gauss.Add(x, y), "added": gauss.Add(y, x), "sub": gauss.Sub(x, y), "subtracted": gauss.Sub(y, x), "mul": gauss.Mul(x, y), "multiplied": gauss.Mul(y, x)} {
				if !same(c, 0) {
					t.Errorf("%s of %v and %v: %v", name, x, y, c)
				}
			}
			for _, l := range [][2]complex128{{x, y}, {y, x}} {
				if c, ok := gauss.Divide(l[0], l[1]); !same(c, 0) || ok {
					t.Errorf("%v: %v, %v", l, c, ok)
				}
			}
		}
		for _, n := range []int{math.MinInt, -1, 0, 1, 2, 3, 4, 65518, math.MaxInt} {
			if p, c := gauss.Power(x, n), gauss.Turn(x, n); !same(p, 0) || !same(c, 0) {
				t.Errorf("%v by %d: %v, %v", x, n, p, c)
			}
		}
		if c, ok := gauss.Inverse(x); !same(c, 0) || ok {
			t.Errorf("%v: %v, %v", x, c, ok)
		}
	}
}

// P22.1. Powers, one behind the other, and great ones: of a number that isn't 0 they come again behind prime times prime less 1.
func TestPower(t *testing.T) {
	const round = prime*prime - 1
	for _, x := range residues(50) {
		want := number{1, 0}
		for n := range 40 {
			if got := gauss.Power(x, n); !same(got, want.residue()) {
				t.Fatalf("%v by %d: %v, not %v", x, n, got, want)
			}
			want = want.times(numberOf(x))
		}
		for _, n := range []int{0, -1, -2, -65518, math.MinInt} {
			if got := gauss.Power(x, n); !same(got, 1) {
				t.Errorf("%v by %d: %v", x, n, got)
			}
		}
		for _, n := range []int{round - 1, round, round + 1, 1 << 40, math.MaxInt} {
			want := gauss.Power(x, n%round)
			if x == 0 {
				want = 0
			}
			if got := gauss.Power(x, n); !same(got, want) {
				t.Errorf("%v by %d: %v, not %v", x, n, got, want)
			}
		}
	}
	for _, n := range []int{math.MaxInt, math.MaxInt - 1, 1<<62 + 1, 123456789012345} {
		want := new(big.Int).Exp(big.NewInt(7), big.NewInt(int64(n)), big.NewInt(prime))
		if got := gauss.Power(7, n); !same(got, complex(float64(want.Int64()), 0)) {
			t.Errorf("7 by %d: %v, not %v", n, got, want)
		}
	}
	if gauss.Power(2, 5) != 32 || gauss.Power(1i, 2) != 65518 || gauss.Power(0, 0) != 1 || gauss.Power(0, 1) != 0 {
		t.Error("powers")
	}
}

// P22.1. Each residue but 0 has an inverse, with which its product is 1.
func TestInverse(t *testing.T) {
	l := residues(5000)
	for i := range prime {
		l = append(l, complex(float64(i), 0), complex(0, float64(i)), complex(float64(i), 1))
	}
	for _, x := range l {
		c, ok := gauss.Inverse(x)
		if x == 0 {
			if !same(c, 0) || ok {
				t.Errorf("0: %v, %v", c, ok)
			}
			continue
		}
		if !ok || !gauss.Right(c) || numberOf(x).times(numberOf(c)) != (number{1, 0}) {
			t.Fatalf("%v: %v, %v", x, c, ok)
		}
	}
	if c, ok := gauss.Inverse(1i); c != complex(0, 65518) || !ok {
		t.Error(c, ok)
	}
}

// P22.1. What is divided, times what it was divided by, is what it was; nothing is divided by 0.
func TestDivide(t *testing.T) {
	l := residues(100)
	for _, x := range l {
		for _, y := range l {
			c, ok := gauss.Divide(x, y)
			if y == 0 {
				if !same(c, 0) || ok {
					t.Errorf("%v by 0: %v, %v", x, c, ok)
				}
				continue
			}
			if !ok || !gauss.Right(c) || numberOf(c).times(numberOf(y)) != numberOf(x) {
				t.Fatalf("%v by %v: %v, %v", x, y, c, ok)
			}
		}
	}
}

// P22.1. Turned so many times, this way or the other one.
func TestTurn(t *testing.T) {
	for _, x := range residues(50) {
		there, back := numberOf(x), numberOf(x)
		for n := range 13 {
			if got := gauss.Turn(x, n); !same(got, there.residue()) {
				t.Fatalf("%v by %d: %v, not %v", x, n, got, there)
			}
			if got := gauss.Turn(x, -n); !same(got, back.residue()) {
				t.Fatalf("%v by %d: %v, not %v", x, -n, got, back)
			}
			there, back = there.times(number{0, 1}), back.times(number{0, prime - 1})
		}
		for n, small := range map[int]int{math.MinInt: 0, math.MinInt + 1: 1, math.MinInt + 3: 3, math.MaxInt: 3, math.MaxInt - 1: 2, 1 << 40: 0, -(1<<40 + 1): -1} {
			if got := gauss.Turn(x, n); !same(got, gauss.Turn(x, small)) {
				t.Errorf("%v by %d: %v", x, n, got)
			}
		}
	}
	if gauss.Turn(complex(2, 3), 1) != complex(65516, 2) || gauss.Turn(complex(2, 3), -1) != complex(3, 65517) {
		t.Error("turns")
	}
}

// ids are so many ids by chance, some with parts beyond the prime, or none.
func ids(r *rand.Rand, n int) []api.Id {
	var l []api.Id
	for range n {
		var a api.Id
		r.Read(a[:])
		switch r.Intn(4) {
		case 0:
			a[0], a[1] = 255, byte(232+r.Intn(24))
		case 1:
			a[2], a[3] = 255, byte(232+r.Intn(24))
		case 2:
			a[0], a[1], a[2] = 0, 0, byte(r.Intn(2))
		}
		l = append(l, a)
	}
	return l
}

// P22.1, P22.2. The tally of ids is the product of their residues, in whatever order they stand; that of two rows is both's product.
func TestTally(t *testing.T) {
	r := rand.New(rand.NewSource(222))
	for range 300 {
		l, m := ids(r, r.Intn(20)), ids(r, r.Intn(20))
		if r.Intn(3) == 0 {
			m = append(m, l...)
		}
		want := number{1, 0}
		for _, a := range l {
			x := number{int64(a[0])<<8 | int64(a[1]), int64(a[2])<<8 | int64(a[3])}
			if x = numberOf(x.residue()); x == (number{}) {
				x = number{1, 0}
			}
			want = want.times(x)
		}
		kept := slices.Clone(l)
		one := gauss.Tally(l)
		if !same(one, want.residue()) || one == 0 || !slices.Equal(l, kept) {
			t.Fatalf("%x: %v, not %v", l, one, want)
		}
		both := append(slices.Clone(l), m...)
		if got := gauss.Tally(both); !same(got, gauss.Mul(one, gauss.Tally(m))) {
			t.Fatalf("%x, %x: %v", l, m, got)
		}
		before := gauss.Tally(both)
		r.Shuffle(len(both), func(i, j int) { both[i], both[j] = both[j], both[i] })
		if got := gauss.Tally(both); !same(got, before) {
			t.Fatalf("%x: %v, not %v", both, got, before)
		}
	}
	if gauss.Tally(nil) != 1 || gauss.Tally([]api.Id{}) != 1 || gauss.Tally([]api.Id{{}}) != 1 {
		t.Error("the tally of none")
	}
}
