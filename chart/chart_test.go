package chart_test

import (
	"fmt"
	"math"
	"math/rand"
	"slices"
	"strings"
	"testing"

	"quitclaim/api"
	"quitclaim/chart"
	"quitclaim/graph"
)

// name is the id of a number from 0 to 255; ids rise as numbers do, some of them by their last byte alone.
func name(n int) api.Id {
	return api.Id{0: byte(n >> 3), 1: 0x5a, 3: byte(n >> 1), 4: 0x77, 31: byte(n & 1)}
}

// deps are what numbers hang on: number i, with i less than how many there are, on those at i.
type deps [][]int

// nodes are those of numbers, from the last one on.
func (d deps) nodes() []graph.Node {
	var l []graph.Node
	for i := range d {
		n := graph.Node{Id: name(i)}
		for _, k := range d[i] {
			n.Deps = append(n.Deps, name(k))
		}
		l = append(l, n)
	}
	slices.Reverse(l)
	return l
}

// made is the graph of numbers.
func (d deps) made(t *testing.T) *graph.Graph {
	t.Helper()
	g, e := graph.New(d.nodes())
	if e != api.OK {
		t.Fatalf("%v: %d", d, e)
	}
	return g
}

// drawn is a chart, held against those of the program: by rows, the nodes, their lanes, and who holds which lane behind each (-1 where none does).
type drawn struct {
	order []api.Id
	lanes []int
	holds [][]int
	width int
}

// draw draws a graph by the words.
func draw(g *graph.Graph) drawn {
	x := drawn{order: g.Order()}
	// Rows of nodes that hang on each, rising.
	above := map[api.Id][]int{}
	for row, a := range x.order {
		for _, b := range g.Deps(a) {
			above[b] = append(above[b], row)
		}
	}
	var holds []int
	for row, a := range x.order {
		lane := -1
		if l := g.Deps(a); len(l) > 0 {
			lane = slices.Index(holds, slices.Index(x.order, l[0]))
		}
		if lane < 0 {
			lane = slices.Index(holds, -1)
		}
		if lane < 0 {
			lane, holds = len(holds), append(holds, -1)
		}
		holds[lane] = row
		for k, holder := range holds {
			if holder >= 0 && !slices.ContainsFunc(above[x.order[holder]], func(behind int) bool { return behind > row }) {
				holds[k] = -1
			}
		}
		x.lanes, x.holds = append(x.lanes, lane), append(x.holds, slices.Clone(holds))
		x.width = max(x.width, lane+1)
	}
	return x
}

// lines are a chart's, by the words.
func (x drawn) lines() []string {
	var l []string
	for row, a := range x.order {
		s := ""
		for lane := range x.width {
			switch {
			case lane == x.lanes[row]:
				s += "*"
			case lane < len(x.holds[row]) && x.holds[row][lane] >= 0 && x.holds[row][lane] < row:
				s += "|"
			default:
				s += " "
			}
		}
		l = append(l, s+fmt.Sprintf(" %x", a[:4]))
	}
	return l
}

// place is that of a row's node.
func (x drawn) place(row int) complex128 { return complex(float64(x.lanes[row]), float64(row)) }

// edges are a chart's, by the words.
func (x drawn) edges(g *graph.Graph) []complex128 {
	var l []complex128
	for row, a := range x.order {
		for _, b := range g.Deps(a) {
			l = append(l, x.place(slices.Index(x.order, b))-x.place(row))
		}
	}
	return l
}

// looks holds the chart of a graph against one that is drawn by the words.
func looks(t *testing.T, c *chart.Chart, g *graph.Graph) {
	t.Helper()
	x := draw(g)
	if s := c.Size(); s != complex(float64(x.width), float64(len(x.order))) {
		t.Fatalf("%q: %v", x.lines(), s)
	}
	for row, a := range x.order {
		if p, ok := c.Place(a); p != x.place(row) || !ok {
			t.Fatalf("%q: %x at %v, %v", x.lines(), a, p, ok)
		}
	}
	for y := -1; y <= len(x.order); y++ {
		for lane := -1; lane <= x.width; lane++ {
			var want api.Id
			there := y >= 0 && y < len(x.order) && x.lanes[y] == lane
			if there {
				want = x.order[y]
			}
			if a, ok := c.At(complex(float64(lane), float64(y))); a != want || ok != there {
				t.Fatalf("%q: at %d, %d %x, %v", x.lines(), lane, y, a, ok)
			}
		}
	}
	if l := c.Lines(); !slices.Equal(l, x.lines()) {
		t.Fatalf("%q, not %q", l, x.lines())
	}
	if l := c.Edges(); !slices.Equal(l, x.edges(g)) {
		t.Fatalf("%q: %v, not %v", x.lines(), l, x.edges(g))
	}
	stands(t, c, g)
}

// stands looks whether no two nodes have one place, and each edge goes up.
func stands(t *testing.T, c *chart.Chart, g *graph.Graph) {
	t.Helper()
	taken := map[complex128]bool{}
	for _, a := range g.Ids() {
		p, ok := c.Place(a)
		if b, there := c.At(p); !ok || taken[p] || !there || b != a {
			t.Fatalf("%x at %v, where %x is", a, p, b)
		}
		taken[p] = true
		for _, b := range g.Deps(a) {
			if q, _ := c.Place(b); imag(q-p) >= 0 {
				t.Fatalf("%x hangs on %x: %v", a, b, q-p)
			}
		}
	}
	for _, q := range c.Edges() {
		if imag(q) >= 0 {
			t.Fatal(q)
		}
	}
}

// P31.1. The example: 2 hangs on 1.
func TestExample(t *testing.T) {
	g, _ := graph.New([]graph.Node{{Id: api.Id{2}, Deps: []api.Id{{1}}}, {Id: api.Id{1}}})
	c := chart.New(g)
	for a, want := range map[api.Id]complex128{{1}: 0, {2}: 1i} {
		if p, ok := c.Place(a); p != want || !ok {
			t.Errorf("%x at %v", a, p)
		}
		if b, ok := c.At(want); b != a || !ok {
			t.Errorf("%x at %v", b, want)
		}
	}
}

// P31.1, P31.2. All graphs of up to four nodes, and those of five in which each number hangs on lesser ones.
func TestSmall(t *testing.T) {
	whole := 0
	for n := range 5 {
		for bits := range 1 << (n * n) {
			d := make(deps, n)
			for i := range n * n {
				if bits>>i&1 == 1 {
					d[i/n] = append(d[i/n], i%n)
				}
			}
			if g, e := graph.New(d.nodes()); e == api.OK {
				looks(t, chart.New(g), g)
				whole++
			}
		}
	}
	if whole != 1+1+3+25+543 {
		t.Errorf("%d are whole", whole)
	}
	for bits := range 1 << 10 {
		d, rest := make(deps, 5), bits
		for i := range d {
			for k := range i {
				if rest&1 == 1 {
					d[i] = append(d[i], k)
				}
				rest >>= 1
			}
		}
		g := d.made(t)
		looks(t, chart.New(g), g)
	}
}

// grown are greater ones that are whole: of n numbers, each of which hangs on some ahead of it in a row of their own.
func grown(r *rand.Rand, n, most int) deps {
	row := r.Perm(n)
	d := make(deps, n)
	for at, i := range row {
		for range r.Intn(most + 1) {
			if at > 0 {
				d[i] = append(d[i], row[r.Intn(at)])
			}
		}
	}
	return d
}

// P31.1, P31.2. Greater graphs, narrow ones and wide ones.
func TestGreater(t *testing.T) {
	r := rand.New(rand.NewSource(31))
	for round := range 400 {
		g := grown(r, 1+r.Intn(45), 1+round%6).made(t)
		looks(t, chart.New(g), g)
	}
}

// P31.1, P31.2. Graphs of some hundred lanes, which are let go and taken again anywhere.
func TestWide(t *testing.T) {
	r := rand.New(rand.NewSource(312))
	for range 6 {
		d := make(deps, 250)
		for i := 130 + r.Intn(20); i < len(d); i++ {
			for range r.Intn(5) {
				d[i] = append(d[i], r.Intn(i))
			}
		}
		for i := range 200 {
			d[249] = append(d[249], i)
		}
		g := d.made(t)
		c := chart.New(g)
		if n := real(c.Size()); n < 129 {
			t.Fatal(n)
		}
		looks(t, c, g)
	}
}

// shown looks what lines a graph has, without the ids, which are those of its order.
func shown(t *testing.T, d deps, want ...string) {
	t.Helper()
	g := d.made(t)
	for i, a := range g.Order() {
		want[i] += fmt.Sprintf(" %x", a[:4])
	}
	c := chart.New(g)
	if l := c.Lines(); !slices.Equal(l, want) {
		t.Errorf("%v:\n%s\nnot:\n%s", d, strings.Join(l, "\n"), strings.Join(want, "\n"))
	}
	looks(t, c, g)
}

// P31.1. Charts drawn by hand: what takes whose lane, what lets go which, and when.
func TestByHand(t *testing.T) {
	// Nodes on which none hangs let their lanes go at once.
	shown(t, deps{nil, nil, nil}, "*", "*", "*")
	// A row of nodes keeps one lane.
	shown(t, deps{nil, {0}, {1}, {2}}, "*", "*", "*", "*")
	// The first one that hangs on a node takes its lane, the next one another.
	shown(t, deps{nil, {0}, {0}, {1, 2}}, "* ", "* ", "|*", "* ")
	// The lane is that of the dep with the least id, although another one holds a lesser lane.
	shown(t, deps{{2}, nil, nil, {0, 1}}, "* ", "|*", "|*", " *")
	shown(t, deps{{2}, {2}, nil, {0, 1}}, "* ", "* ", "|*", "* ")
	shown(t, deps{{1}, nil, nil, {0, 2}}, "* ", "* ", "|*", "* ")
	shown(t, deps{{1, 2}, nil, nil}, "* ", "|*", "* ")
	// Where its first dep's lane is taken, a node takes none of another dep, but the least that is free.
	shown(t, deps{nil, nil, nil, {0}, {0, 1}, {1, 2, 3, 4}}, "*   ", "|*  ", "||* ", "*|| ", "|||*", " *  ")
	// Of a node's lane that was taken, what takes it lets it go, not the node.
	shown(t, deps{nil, {0}, {0}, {1}}, "* ", "* ", "|*", "* ")
	shown(t, deps{nil, {0}, nil, {0, 2}}, "* ", "* ", "* ", " *")
	// A lane that is let go is free from the next row on, the least one first.
	shown(t, deps{nil, nil, nil, {0, 1, 2}, nil, nil, {4, 5}}, "*  ", "|* ", "||*", "*  ", "*  ", "|* ", "*  ")
	shown(t, deps{nil, nil, nil, {1, 2}, nil, {0, 4}}, "*  ", "|* ", "||*", "|* ", "|* ", "*  ")
	// A lane between others is free.
	shown(t, deps{nil, nil, nil, {1}, nil, {0, 2, 4}}, "*  ", "|* ", "||*", "|*|", "|*|", "*  ")
}

// P31.1. Ids are told by the digits of their first four bytes; those below ten and above, small letters.
func TestDigits(t *testing.T) {
	g, _ := graph.New([]graph.Node{{Id: api.Id{0, 1, 2, 0xab, 0xff}}, {Id: api.Id{0xfe, 0xdc, 0xba, 0x98, 0x76}, Deps: []api.Id{{}}}, {}})
	if l := chart.New(g).Lines(); !slices.Equal(l, []string{"*  00000000", "|* 000102ab", "*  fedcba98"}) {
		t.Errorf("%q", l)
	}
}

// P31.1. The chart of no nodes has nothing.
func TestEmpty(t *testing.T) {
	g := deps{}.made(t)
	c := chart.New(g)
	if c == nil || c.Size() != 0 || len(c.Edges()) != 0 || len(c.Lines()) != 0 {
		t.Fatal(c)
	}
	strange(t, c)
	if a, ok := c.At(0); ok || a != (api.Id{}) {
		t.Error(a)
	}
	looks(t, c, g)
}

// strange looks what a chart tells of ids and places that aren't there.
func strange(t *testing.T, c *chart.Chart) {
	t.Helper()
	for _, a := range []api.Id{{}, {1}, {31: 200}, name(200), {0: 0xff}} {
		if p, ok := c.Place(a); ok || p != 0 {
			t.Errorf("%x at %v", a, p)
		}
	}
	odd := []float64{-1, -0.5, 0.5, 1.5, 2.000001, 1e9, 1 << 32, 1 << 63, 1 << 64, 1e300, -1e300, math.NaN(), math.Inf(1), math.Inf(-1), math.SmallestNonzeroFloat64, -math.SmallestNonzeroFloat64}
	for _, x := range odd {
		for _, y := range append(odd, 0, 1, 2) {
			for _, p := range []complex128{complex(x, y), complex(y, x)} {
				if a, ok := c.At(p); ok || a != (api.Id{}) {
					t.Errorf("%x at %v", a, p)
				}
			}
		}
	}
}

// P31.1. Ids and places that aren't there; the least id of all is one.
func TestStrange(t *testing.T) {
	strange(t, chart.New(deps{nil, {0}, {0}, {1, 2}}.made(t)))
	g, _ := graph.New([]graph.Node{{}})
	c := chart.New(g)
	if a, ok := c.At(0); !ok || a != (api.Id{}) {
		t.Error(a, ok)
	}
	if p, ok := c.Place(api.Id{}); !ok || p != 0 {
		t.Error(p, ok)
	}
	if p, ok := c.Place(api.Id{31: 1}); ok || p != 0 {
		t.Error(p, ok)
	}
	less := math.Copysign(0, -1)
	if a, ok := c.At(complex(less, less)); !ok || a != (api.Id{}) {
		t.Error(a, ok)
	}
}

// P31.1, P31.2. Long charts, and wide ones, are drawn in the end.
func TestLong(t *testing.T) {
	long := func(n int) api.Id { return api.Id{0: byte(n >> 16), 1: byte(n >> 8), 2: byte(n)} }
	const n, wide = 50000, 3000
	var row, star []graph.Node
	for i := range n {
		row = append(row, graph.Node{Id: long(i)})
		if i > 0 {
			row[i].Deps = []api.Id{long(i - 1)}
		}
	}
	for i := range wide {
		star = append(star, graph.Node{Id: long(i)})
	}
	for i := range wide {
		star = append(star, graph.Node{Id: long(wide + i), Deps: []api.Id{long(wide - 1 - i)}})
	}
	g, _ := graph.New(row)
	c := chart.New(g)
	if p, ok := c.Place(long(n - 1)); c.Size() != complex(1, n) || p != complex(0, n-1) || !ok || c.Lines()[n-1] != "* 00c34f00" || len(c.Edges()) != n-1 {
		t.Error(c.Size(), p)
	}
	h, _ := graph.New(star)
	x := chart.New(h)
	l := x.Lines()
	if p, _ := x.Place(long(wide)); x.Size() != complex(wide, 2*wide) || p != complex(wide-1, wide) || len(l) != 2*wide {
		t.Fatal(x.Size(), p)
	}
	if l[wide] != strings.Repeat("|", wide-1)+"* 000bb800" || l[2*wide-1] != "*"+strings.Repeat(" ", wide)+"00176f00" {
		t.Error(l[wide][wide-5:], l[2*wide-1][:5])
	}
	stands(t, x, h)
}

// P31.1. A place turned by a quarter: x becomes y, and y becomes -x; and by any number of them.
func TestTurn(t *testing.T) {
	for _, a := range []float64{0, 1, 2, 7, 1<<20 - 1, 1 << 20, -1, -3, -1 << 20} {
		for _, b := range []float64{0, 1, 5, 1 << 20, -1, -4, -1<<20 + 1, -1 << 20} {
			p := complex(a, b)
			by := [4]complex128{p, complex(-b, a), complex(-a, -b), complex(b, -a)}
			for n := -9; n < 10; n++ {
				if q := chart.Turn(p, n); q != by[(n+12)%4] {
					t.Fatalf("%v by %d: %v", p, n, q)
				}
			}
			for n, rest := range map[int]int{math.MaxInt: 3, math.MaxInt - 1: 2, math.MinInt: 0, math.MinInt + 1: 1, math.MinInt + 3: 3, 1 << 40: 0, 1<<40 + 1: 1, -1<<40 - 1: 3} {
				if q := chart.Turn(p, n); q != by[rest] {
					t.Fatalf("%v by %d: %v", p, n, q)
				}
			}
		}
	}
	if q := chart.Turn(complex(1, 2), 1); q != complex(-2, 1) {
		t.Error(q)
	}
}

// P31.1. The least and the greatest parts, which may be of several places; and how far the furthest one is.
func TestBoxFar(t *testing.T) {
	const end = 1 << 20
	for _, c := range []struct {
		l         []complex128
		low, high complex128
		far       float64
	}{
		{nil, 0, 0, 0}, {[]complex128{}, 0, 0, 0}, {[]complex128{0}, 0, 0, 0}, {[]complex128{complex(3, 4)}, complex(3, 4), complex(3, 4), 25}, {[]complex128{complex(-3, -4)}, complex(-3, -4), complex(-3, -4), 25},
		{[]complex128{complex(3, 9), complex(5, 7)}, complex(3, 7), complex(5, 9), 90}, {[]complex128{complex(5, 9), complex(3, 7)}, complex(3, 7), complex(5, 9), 106}, {[]complex128{complex(-3, -9), complex(-5, -7)}, complex(-5, -9), complex(-3, -7), 90},
		{[]complex128{complex(1, 5), complex(-2, 7)}, complex(-2, 5), complex(1, 7), 53}, {[]complex128{complex(3, 4), 2}, complex(2, 0), complex(3, 4), 25}, {[]complex128{2, complex(0, -3), 1}, complex(0, -3), complex(2, 0), 9},
		{[]complex128{complex(end, end)}, complex(end, end), complex(end, end), 2 * end * end}, {[]complex128{complex(-end, 1-end), complex(end, 0)}, complex(-end, 1-end), complex(end, 0), end*end + (end-1)*(end-1)}, {[]complex128{complex(end, 1), complex(end, 0), complex(end, -1)}, complex(end, -1), complex(end, 1), end*end + 1},
	} {
		before := slices.Clone(c.l)
		if low, high := chart.Box(c.l); low != c.low || high != c.high {
			t.Errorf("%v: %v, %v", c.l, low, high)
		}
		if far := chart.Far(c.l); far != c.far || !slices.Equal(c.l, before) {
			t.Errorf("%v: %v", c.l, far)
		}
	}
}

// P31.1. Any places, held against whole numbers.
func TestBoxFarAny(t *testing.T) {
	r := rand.New(rand.NewSource(311))
	for range 2000 {
		var l []complex128
		var xs, ys, squares []int
		most := 1 << r.Intn(21)
		for range 1 + r.Intn(6) {
			x, y := r.Intn(2*most+1)-most, r.Intn(2*most+1)-most
			l = append(l, complex(float64(x), float64(y)))
			xs, ys, squares = append(xs, x), append(ys, y), append(squares, x*x+y*y)
		}
		low, high := chart.Box(l)
		if low != complex(float64(slices.Min(xs)), float64(slices.Min(ys))) || high != complex(float64(slices.Max(xs)), float64(slices.Max(ys))) {
			t.Fatalf("%v: %v, %v", l, low, high)
		}
		if far := chart.Far(l); far != float64(slices.Max(squares)) {
			t.Fatalf("%v: %v", l, far)
		}
	}
}

// P31.1. Of numbers that are no places something is told.
func TestOddNumbers(t *testing.T) {
	odd := []float64{0, 0.5, -0.5, 1e300, -1e300, math.NaN(), math.Inf(1), math.Inf(-1)}
	for _, x := range odd {
		for _, y := range odd {
			p := complex(x, y)
			for n := range 4 {
				chart.Turn(p, n)
			}
			chart.Box([]complex128{p, 1, p})
			chart.Far([]complex128{1, p})
		}
	}
}

// P31.1. The graph stays as it was; what is told shares nothing with the chart.
func TestMemory(t *testing.T) {
	d := deps{nil, {0}, {0}, {1, 2}, nil, {4, 0}}
	g := d.made(t)
	order := g.Order()
	c := chart.New(g)
	for range 2 {
		edges, lines := c.Edges(), c.Lines()
		if len(edges) != 6 || len(lines) != 6 {
			t.Fatal(edges, lines)
		}
		for i := range edges[:cap(edges)] {
			edges[:cap(edges)][i] = 7
		}
		for i := range lines[:cap(lines)] {
			lines[:cap(lines)][i] = "spoilt"
		}
		looks(t, c, g)
	}
	if !slices.Equal(g.Order(), order) {
		t.Errorf("%x", g.Order())
	}
	looks(t, chart.New(g), g)
}
