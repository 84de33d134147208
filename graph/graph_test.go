package graph_test

import (
	"fmt"
	"math/rand"
	"slices"
	"testing"

	"quitclaim/api"
	"quitclaim/graph"
	"quitclaim/id"
)

// name is the id of a number from 0 to 255; ids rise as numbers do, some by their last byte alone.
func name(n int) api.Id {
	return api.Id{0: byte(n >> 4 * 17), 31: byte(n & 15 * 17)}
}

// names are the ids of numbers.
func names(l []int) []api.Id {
	var ids []api.Id
	for _, n := range l {
		ids = append(ids, name(n))
	}
	return ids
}

// deps are what numbers hang on, held against graphs: number i, with i less than how many there are, on those at i.
type deps [][]int

// nodes are those of numbers, in some order.
func (d deps) nodes(order []int) []graph.Node {
	var l []graph.Node
	for _, i := range order {
		l = append(l, graph.Node{Id: name(i), Deps: names(d[i])})
	}
	return l
}

// all are the numbers, rising.
func (d deps) all() []int {
	var l []int
	for i := range d {
		l = append(l, i)
	}
	return l
}

// far tells of each two numbers whether the first one hangs on the second one, through however many.
func (d deps) far() [][]bool {
	hangs := make([][]bool, len(d))
	for i, l := range d {
		hangs[i] = make([]bool, len(d))
		for _, k := range l {
			hangs[i][k] = true
		}
	}
	for through := range d {
		for i := range d {
			for k := range d {
				if hangs[i][through] && hangs[through][k] {
					hangs[i][k] = true
				}
			}
		}
	}
	return hangs
}

// order is the order of some numbers, worked out one by one by the words; and whether there is one.
func (d deps) order(some []int) ([]int, bool) {
	var l []int
	for len(l) < len(some) {
		next := -1
		for _, i := range some {
			waits := slices.ContainsFunc(d[i], func(k int) bool { return !slices.Contains(l, k) })
			if !waits && !slices.Contains(l, i) && (next < 0 || i < next) {
				next = i
			}
		}
		if next < 0 {
			return nil, false
		}
		l = append(l, next)
	}
	return l, true
}

// depth is how long the longest row is that begins with a number.
func (d deps) depth(i int) int {
	longest := 0
	for _, k := range d[i] {
		longest = max(longest, d.depth(k))
	}
	return longest + 1
}

// chosen are the numbers of which something holds, rising.
func (d deps) chosen(holds func(i int) bool) []int {
	return slices.DeleteFunc(d.all(), func(i int) bool { return !holds(i) })
}

// made is a whole graph.
func made(t *testing.T, l []graph.Node) *graph.Graph {
	t.Helper()
	g, e := graph.New(l)
	if e != api.OK || g == nil {
		t.Fatalf("%v: %d", l, e)
	}
	return g
}

// tells looks whether a row is that of some numbers.
func tells(t *testing.T, what string, l []api.Id, want []int) {
	t.Helper()
	if !slices.Equal(l, names(want)) {
		t.Fatalf("%s: %x, not %x", what, l, names(want))
	}
}

// looks holds a graph against what its numbers hang on.
func looks(t *testing.T, g *graph.Graph, d deps) {
	t.Helper()
	far := d.far()
	order, _ := d.order(d.all())
	if g.Len() != len(d) {
		t.Fatalf("%v: %d nodes", d, g.Len())
	}
	tells(t, fmt.Sprint(d, " ids"), g.Ids(), d.all())
	tells(t, fmt.Sprint(d, " order"), g.Order(), order)
	tells(t, fmt.Sprint(d, " heads"), g.Heads(), d.chosen(func(i int) bool {
		return !slices.ContainsFunc(d, func(l []int) bool { return slices.Contains(l, i) })
	}))
	for i := range d {
		a, at := name(i), fmt.Sprint(d, " of ", i, " ")
		if !g.Has(a) || g.Depth(a) != d.depth(i) {
			t.Fatalf("%s: %v, %d", at, g.Has(a), g.Depth(a))
		}
		tells(t, at+"deps", g.Deps(a), d.chosen(func(k int) bool { return slices.Contains(d[i], k) }))
		tells(t, at+"cone", g.Cone(a), d.chosen(func(k int) bool { return far[i][k] }))
		tells(t, at+"above", g.Above(a), d.chosen(func(k int) bool { return far[k][i] }))
		if l, e := g.Closure([]api.Id{a, a}); e != api.OK || !slices.Equal(l, names(d.chosen(func(k int) bool { return k == i || far[i][k] }))) {
			t.Fatalf("%sclosure %x, %d", at, l, e)
		}
	}
	stands(t, g)
}

// stands looks whether in the order each node stands behind its cone.
func stands(t *testing.T, g *graph.Graph) {
	t.Helper()
	order := g.Order()
	for i, a := range order {
		for _, b := range g.Cone(a) {
			if k := slices.Index(order, b); k < 0 || k >= i {
				t.Fatalf("%x hangs on %x, which stands at %d, not ahead of %d", a, b, k, i)
			}
		}
	}
}

// some holds what a graph tells of some of its numbers against the words.
func some(t *testing.T, g *graph.Graph, d deps, l []int) {
	t.Helper()
	far := d.far()
	c, e := g.Closure(names(l))
	want := d.chosen(func(k int) bool {
		return slices.ContainsFunc(l, func(i int) bool { return i == k || far[i][k] })
	})
	if e != api.OK || !slices.Equal(c, names(want)) {
		t.Fatalf("%v, closure of %v: %x, %d", d, l, c, e)
	}
	var order []int
	wrong := api.OK
	for _, i := range l {
		for _, k := range d[i] {
			if !slices.Contains(l, k) {
				wrong = api.ErrDeps
			}
		}
	}
	if wrong == api.OK {
		once := slices.Compact(slices.Sorted(slices.Values(l)))
		order, _ = d.order(once)
	}
	if s, e := g.Some(names(l)); e != wrong || !slices.Equal(s, names(order)) {
		t.Fatalf("%v, some of %v: %x, %d, not %v, %d", d, l, s, e, order, wrong)
	}
}

// each goes through what so many numbers may hang on, whole or not.
func each(n int, yield func(d deps)) {
	for bits := range 1 << (n * n) {
		d := make(deps, n)
		for i := range n {
			for k := range n {
				if bits>>(i*n+k)&1 == 1 {
					d[i] = append(d[i], k)
				}
			}
		}
		yield(d)
	}
}

// P17.1, P17.2, P17.3. All graphs of up to three nodes, handed in in each order: whether they are whole, and all that they tell.
func TestSmall(t *testing.T) {
	orders := [][]int{{0, 1, 2}, {0, 2, 1}, {1, 0, 2}, {1, 2, 0}, {2, 0, 1}, {2, 1, 0}}
	lists := [][]int{nil, {}, {0}, {1}, {2}, {0, 1}, {2, 0}, {2, 1}, {2, 1, 0}, {0, 2, 1}, {1, 1}, {0, 1, 0}, {2, 0, 1, 2, 0, 0}}
	whole := 0
	for n := range 4 {
		each(n, func(d deps) {
			_, ok := d.order(d.all())
			for _, o := range orders {
				o = slices.DeleteFunc(slices.Clone(o), func(i int) bool { return i >= n })
				g, e := graph.New(d.nodes(o))
				if !ok {
					if g != nil || e != api.ErrOrder {
						t.Fatalf("%v: %v, %d", d, g, e)
					}
					continue
				}
				if e != api.OK {
					t.Fatalf("%v: %d", d, e)
				}
				looks(t, g, d)
				for _, l := range lists {
					if !slices.ContainsFunc(l, func(i int) bool { return i >= n }) {
						some(t, g, d, l)
					}
				}
				whole++
			}
		})
	}
	if whole != 6*(1+1+3+25) {
		t.Errorf("%d are whole", whole)
	}
}

// P17.1, P17.2. All graphs of four nodes.
func TestFour(t *testing.T) {
	whole := 0
	each(4, func(d deps) {
		g, e := graph.New(d.nodes([]int{2, 0, 3, 1}))
		if _, ok := d.order(d.all()); !ok {
			if g != nil || e != api.ErrOrder {
				t.Fatalf("%v: %v, %d", d, g, e)
			}
			return
		}
		looks(t, g, d)
		for bits := range 16 {
			some(t, g, d, d.chosen(func(i int) bool { return bits>>i&1 == 1 }))
		}
		whole++
	})
	if whole != 543 {
		t.Errorf("%d are whole", whole)
	}
}

// grown are greater ones that are whole: of n numbers, each of which hangs on some ahead of it in a row of their own, on some of these twice.
func grown(r *rand.Rand, n, most int) deps {
	row := r.Perm(n)
	d := make(deps, n)
	for at, i := range row {
		for range r.Intn(most + 1) {
			if at > 0 {
				d[i] = append(d[i], row[r.Intn(at)])
			}
		}
	}
	return d
}

// P17.1, P17.2, P17.3. Greater graphs, handed in in several orders.
func TestGreater(t *testing.T) {
	r := rand.New(rand.NewSource(17))
	for round := range 60 {
		d := grown(r, 1+r.Intn(40), 1+round%5)
		var before []api.Id
		for range 4 {
			g := made(t, d.nodes(r.Perm(len(d))))
			looks(t, g, d)
			if before != nil && !slices.Equal(before, g.Order()) {
				t.Fatalf("%v: %x, then %x", d, before, g.Order())
			}
			before = g.Order()
			l := r.Perm(len(d))[:r.Intn(len(d))]
			some(t, g, d, l)
			far := d.far()
			some(t, g, d, d.chosen(func(k int) bool {
				return slices.ContainsFunc(l, func(i int) bool { return i == k || far[i][k] })
			}))
		}
	}
}

// P17.3. Order doesn't hang on how the deps stand, nor on how often.
func TestDepsAnyOrder(t *testing.T) {
	d := deps{{3}, {0, 3}, {5, 1, 0}, nil, {2, 2, 5, 1, 2}, {0}}
	want := made(t, d.nodes(d.all())).Order()
	r := rand.New(rand.NewSource(173))
	for range 100 {
		l := d.nodes(r.Perm(len(d)))
		for i := range l {
			for range r.Intn(4) {
				if n := len(l[i].Deps); n > 0 {
					l[i].Deps = append(l[i].Deps, l[i].Deps[r.Intn(n)])
				}
			}
			r.Shuffle(len(l[i].Deps), func(a, b int) { l[i].Deps[a], l[i].Deps[b] = l[i].Deps[b], l[i].Deps[a] })
		}
		g := made(t, l)
		looks(t, g, d)
		if !slices.Equal(g.Order(), want) {
			t.Fatalf("%x, not %x", g.Order(), want)
		}
	}
}

// P17.1. Ids are ordered by all their bytes, the first one first, as numbers without a sign.
func TestIdsOrder(t *testing.T) {
	l := []api.Id{{}, {31: 1}, {31: 0xff}, {30: 1}, {15: 0x7f}, {15: 0x80}, {0: 1}, {0: 1, 31: 1}, {0: 0x7f, 31: 0xff}, {0: 0x80}, {0: 0xff}}
	var nodes []graph.Node
	for i := range l {
		nodes = append(nodes, graph.Node{Id: l[(i*4+3)%len(l)]})
	}
	g := made(t, nodes)
	for _, m := range [][]api.Id{g.Order(), g.Ids(), g.Heads()} {
		if !slices.Equal(m, l) {
			t.Errorf("%x", m)
		}
	}
	last := append(slices.Clone(nodes), graph.Node{Id: api.Id{0: 0xff, 1: 1}, Deps: []api.Id{l[10], l[0], l[5], l[9]}})
	if m := made(t, last).Deps(api.Id{0: 0xff, 1: 1}); !slices.Equal(m, []api.Id{l[0], l[5], l[9], l[10]}) {
		t.Errorf("%x", m)
	}
}

// P17.1. The example: 3 hangs on 1, 1 and 2 on nothing.
func TestExample(t *testing.T) {
	g := made(t, []graph.Node{{Id: api.Id{3}, Deps: []api.Id{{1}}}, {Id: api.Id{1}}, {Id: api.Id{2}}})
	if l := g.Order(); !slices.Equal(l, []api.Id{{1}, {2}, {3}}) {
		t.Errorf("%x", l)
	}
	if l := g.Cone(api.Id{3}); !slices.Equal(l, []api.Id{{1}}) {
		t.Errorf("%x", l)
	}
}

// P17.1. A node that waits goes ahead of a greater one as soon as it waits no more.
func TestOrderLeastFirst(t *testing.T) {
	for _, c := range []struct {
		d    deps
		want []int
	}{
		{deps{{1}, nil, nil}, []int{1, 0, 2}}, {deps{{2}, nil, nil}, []int{1, 2, 0}}, {deps{{4}, {0}, {1}, nil, nil}, []int{3, 4, 0, 1, 2}}, {deps{{3}, nil, {0}, nil, nil}, []int{1, 3, 0, 2, 4}}, {deps{{1, 4}, nil, {1}, nil, nil}, []int{1, 2, 3, 4, 0}},
	} {
		tells(t, "order", made(t, c.d.nodes(c.d.all())).Order(), c.want)
	}
}

// P17.1. Of nodes that make no whole graph: ErrSame is told ahead of ErrDeps, this ahead of ErrOrder, wherever they stand.
func TestNewWrong(t *testing.T) {
	one, two, three, none := name(1), name(2), name(3), name(9)
	node := func(a api.Id, l ...api.Id) graph.Node { return graph.Node{Id: a, Deps: l} }
	var ring []graph.Node
	for i := range 200 {
		ring = append(ring, node(name(i), name((i+1)%200)))
	}
	for i, c := range []struct {
		l    []graph.Node
		want api.Errno
	}{
		{[]graph.Node{node(one), node(one)}, api.ErrSame}, {[]graph.Node{node(one), node(two), node(three, one), node(two, one)}, api.ErrSame}, {[]graph.Node{node(two, one), node(one), node(two, one)}, api.ErrSame}, {[]graph.Node{{}, {}}, api.ErrSame},
		{[]graph.Node{node(one, none), node(two), node(two)}, api.ErrSame}, {[]graph.Node{node(one, one), node(two), node(two)}, api.ErrSame}, {[]graph.Node{node(one, one), node(one, one)}, api.ErrSame}, {[]graph.Node{node(one, two), node(two, one), node(one, none)}, api.ErrSame},
		{[]graph.Node{node(one, two)}, api.ErrDeps}, {[]graph.Node{node(one), node(two, one, none)}, api.ErrDeps}, {[]graph.Node{node(one, none, one), node(two)}, api.ErrDeps}, {[]graph.Node{node(one, api.Id{})}, api.ErrDeps},
		{[]graph.Node{node(one, two), node(two, one), node(three, none)}, api.ErrDeps}, {[]graph.Node{node(three, three), node(two, two), node(one, none)}, api.ErrDeps},
		{[]graph.Node{node(one, one)}, api.ErrOrder}, {[]graph.Node{{Deps: []api.Id{{}}}}, api.ErrOrder}, {[]graph.Node{node(one), node(two, one, two)}, api.ErrOrder}, {[]graph.Node{node(one, two), node(two, one)}, api.ErrOrder}, {[]graph.Node{node(one, two), node(two, three), node(three, one)}, api.ErrOrder}, {[]graph.Node{node(one), node(none, one), node(three, two), node(two, three)}, api.ErrOrder},
		{ring, api.ErrOrder}, {ring[:199], api.ErrDeps}, {append(slices.Clone(ring), ring[7]), api.ErrSame},
		{nil, api.OK}, {[]graph.Node{}, api.OK}, {[]graph.Node{{}}, api.OK}, {[]graph.Node{node(two), node(one, two, two)}, api.OK}, {append(slices.Clone(ring[:199]), node(name(199))), api.OK},
	} {
		if g, e := graph.New(c.l); e != c.want || (g == nil) != (e != api.OK) {
			t.Errorf("%d: %v, %d, not %d", i, g != nil, e, c.want)
		}
	}
}

// P17.1. An empty graph has nothing.
func TestEmpty(t *testing.T) {
	for _, l := range [][]graph.Node{nil, {}} {
		g := made(t, l)
		if g.Len() != 0 || len(g.Ids()) != 0 || len(g.Heads()) != 0 || len(g.Order()) != 0 {
			t.Error(g)
		}
		strange(t, g, api.Id{})
		for _, none := range [][]api.Id{nil, {}} {
			c, e := g.Closure(none)
			s, f := g.Some(none)
			if len(c)+len(s) > 0 || e != api.OK || f != api.OK {
				t.Error(c, e, s, f)
			}
		}
	}
}

// strange looks what a graph tells of an id that isn't there.
func strange(t *testing.T, g *graph.Graph, a api.Id) {
	t.Helper()
	if g.Has(a) || len(g.Deps(a)) != 0 || len(g.Cone(a)) != 0 || len(g.Above(a)) != 0 || g.Depth(a) != 0 {
		t.Errorf("%x is there", a)
	}
	if l, e := g.Closure([]api.Id{a}); len(l) != 0 || e != api.ErrNone {
		t.Errorf("%x: %x, %d", a, l, e)
	}
	if l, e := g.Some([]api.Id{a}); len(l) != 0 || e != api.ErrNone {
		t.Errorf("%x: %x, %d", a, l, e)
	}
}

// P17.1. Ids that aren't there, alone and beside others; ErrNone is told ahead of ErrDeps.
func TestStrange(t *testing.T) {
	d := deps{nil, {0}, {1}, {0}}
	g := made(t, d.nodes([]int{3, 2, 1, 0}))
	for _, a := range []api.Id{name(4), name(9), {1: 1}, {31: 1}, {31: 254}, {0: 255}} {
		strange(t, g, a)
		for _, l := range [][]api.Id{{name(0), a}, {a, name(0)}, {name(2), a}, {a, name(2)}, {name(0), name(1), name(2), name(3), a}, {name(2), a, name(2), a}} {
			if c, e := g.Closure(l); len(c) != 0 || e != api.ErrNone {
				t.Errorf("%x: %x, %d", l, c, e)
			}
			if s, e := g.Some(l); len(s) != 0 || e != api.ErrNone {
				t.Errorf("%x: %x, %d", l, s, e)
			}
		}
	}
	for _, l := range [][]api.Id{{name(2)}, {name(2), name(0)}, {name(1), name(2)}, {name(1)}, {name(0), name(3), name(2)}} {
		if s, e := g.Some(l); len(s) != 0 || e != api.ErrDeps {
			t.Errorf("%x: %x, %d", l, s, e)
		}
	}
	looks(t, g, d)
}

// P17.1. Also of nodes that make no whole graph.
func TestMissing(t *testing.T) {
	node := func(n int, l ...int) graph.Node { return graph.Node{Id: name(n), Deps: names(l)} }
	for _, c := range []struct {
		l    []graph.Node
		want []int
	}{
		{nil, nil}, {[]graph.Node{}, nil}, {[]graph.Node{node(1)}, nil}, {[]graph.Node{node(1, 1)}, nil}, {[]graph.Node{node(1, 2)}, []int{2}}, {[]graph.Node{node(1, 2), node(2, 1)}, nil}, {[]graph.Node{node(2, 1), node(1)}, nil}, {[]graph.Node{node(1), node(2, 1)}, nil},
		{[]graph.Node{node(1, 9, 3, 5, 3, 9), node(3, 9, 0, 1), node(3, 200)}, []int{0, 5, 9, 200}}, {[]graph.Node{node(1, 7), node(1, 6), node(1, 7)}, []int{6, 7}}, {[]graph.Node{node(5, 4), node(4, 3), node(3, 2)}, []int{2}}, {[]graph.Node{node(0), node(1, 0)}, nil}, {[]graph.Node{node(1, 0, 255), node(255)}, []int{0}},
	} {
		tells(t, fmt.Sprint(c.l), graph.Missing(c.l), c.want)
		if _, e := graph.New(c.l); len(c.want) == 0 && e == api.ErrDeps || len(c.want) > 0 && e != api.ErrDeps && e != api.ErrSame {
			t.Errorf("%v: %d", c.l, e)
		}
	}
	if l := graph.Missing([]graph.Node{{Id: api.Id{1}, Deps: []api.Id{{}, {31: 1}}}}); !slices.Equal(l, []api.Id{{}, {31: 1}}) {
		t.Errorf("%x", l)
	}
}

// long is a name of great graphs' nodes.
func long(n int) api.Id { return api.Id{0: byte(n * 7), 5: byte(n >> 16), 6: byte(n >> 8), 7: byte(n)} }

// P17.1, P17.2. Long rows, and many ways through few nodes, are gone through in the end.
func TestLong(t *testing.T) {
	const n = 50000
	var row, wide []graph.Node
	var steps []api.Id
	for i := range n {
		row, wide = append(row, graph.Node{Id: long(i)}), append(wide, graph.Node{Id: long(i)})
		steps = append(steps, long(i))
		if i > 0 {
			row[i].Deps = []api.Id{long(i - 1)}
			wide[0].Deps = append(wide[0].Deps, long(i))
		}
	}
	g := made(t, row)
	if last := long(n - 1); g.Depth(last) != n || len(g.Cone(last)) != n-1 || len(g.Above(long(0))) != n-1 || !slices.Equal(g.Order(), steps) || !slices.Equal(g.Heads(), []api.Id{last}) {
		t.Error(g.Depth(last), len(g.Cone(last)))
	}
	h := made(t, wide)
	if o := h.Order(); o[n-1] != long(0) || !id.Rises(o[:n-1]) || h.Depth(long(0)) != 2 || len(h.Cone(long(0))) != n-1 || len(h.Deps(long(0))) != n-1 {
		t.Error(h.Depth(long(0)))
	}
	var ways []graph.Node
	for i := range 600 {
		ways = append(ways, graph.Node{Id: long(i), Deps: steps[max(0, i-16):i]})
	}
	if w := made(t, ways); w.Depth(long(599)) != 600 || len(w.Cone(long(599))) != 599 || len(w.Above(long(0))) != 599 || !slices.Equal(w.Order(), steps[:600]) {
		t.Error(w.Depth(long(599)))
	}
}

// spoil changes a row of ids, its spare room too.
func spoil(l []api.Id) {
	for i := range l[:cap(l)] {
		l[:cap(l)][i] = api.Id{99}
	}
}

// P17.1. What is handed in is neither changed nor kept, its spare room neither; what is told shares nothing with the graph.
func TestMemory(t *testing.T) {
	d := deps{{2}, {0, 4}, nil, {1, 0, 1}, {2}}
	l := d.nodes([]int{3, 1, 4, 0, 2})
	for i := range l {
		l[i].Deps = append(l[i].Deps, api.Id{7}, api.Id{8})[:len(l[i].Deps)]
	}
	before := slices.Clone(l)
	for i := range before {
		before[i].Deps = slices.Clone(l[i].Deps[:cap(l[i].Deps)])
	}
	g := made(t, l)
	graph.Missing(l)
	for i := range l {
		if l[i].Id != before[i].Id || !slices.Equal(l[i].Deps[:cap(l[i].Deps)], before[i].Deps) {
			t.Fatalf("node %d was changed", i)
		}
		spoil(l[i].Deps)
		l[i].Id = api.Id{98}
	}
	looks(t, g, d)
	asked := append(names([]int{3, 2, 0, 4, 1, 3}), name(9))[:6]
	kept := slices.Clone(asked[:7])
	for range 2 {
		c, _ := g.Closure(asked)
		s, e := g.Some(asked)
		if e != api.OK || !slices.Equal(asked[:7], kept) {
			t.Fatalf("%x: %d", asked, e)
		}
		for _, told := range [][]api.Id{c, s, g.Ids(), g.Order(), g.Heads(), g.Deps(name(3)), g.Cone(name(3)), g.Above(name(2)), graph.Missing(before)} {
			if len(told) == 0 {
				t.Fatal("nothing is told")
			}
			spoil(told)
		}
		looks(t, g, d)
		some(t, g, d, []int{3, 2, 0, 4, 1, 3})
	}
}

// FuzzOrder looks at any graph: it is whole, or told not to be, and stands in one order however it is handed in.
func FuzzOrder(f *testing.F) {
	f.Add([]byte{3, 0x30, 0x31})
	f.Add([]byte{9, 0x10, 0x21, 0x32, 0x03})
	f.Fuzz(func(t *testing.T, s []byte) {
		if len(s) == 0 {
			return
		}
		d := make(deps, s[0]%16)
		for _, b := range s[1:] {
			if i, k := int(b>>4), int(b&15); i < len(d) && k < len(d) {
				d[i] = append(d[i], k)
			}
		}
		g, e := graph.New(d.nodes(rand.New(rand.NewSource(int64(len(s)))).Perm(len(d))))
		if _, ok := d.order(d.all()); ok != (e == api.OK) {
			t.Fatalf("%v: %d", d, e)
		}
		if e == api.OK {
			looks(t, g, d)
		}
	})
}
