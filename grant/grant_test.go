package grant_test

import (
	"math/rand"
	"slices"
	"strconv"
	"strings"
	"testing"

	"quitclaim/api"
	"quitclaim/grant"
	"quitclaim/op"
	"quitclaim/path"
)

// key is the one of a number; keys rise as numbers do.
func key(n int) api.Id { return api.Id{0: byte(n >> 4 * 17), 31: byte(n & 15 * 17)} }

// root is the root key of most tables: neither the least key nor the greatest one.
var root = key(100)

// give is a Grant.
func give(s string, k api.Id, depth int) api.Op {
	return api.Op{Kind: api.Grant, Path: s, Key: k, Depth: depth}
}

// take is a Revoke.
func take(s string, k api.Id) api.Op { return api.Op{Kind: api.Revoke, Path: s, Key: k} }

// model is a table by the words, held against it: its grants in any order.
type model struct {
	root   api.Id
	grants []grant.Grant
}

// covers tells whether a prefix covers another one, by the words.
func covers(prefix, s string) bool {
	return prefix == "" || s == prefix || strings.HasPrefix(s, prefix+"/")
}

// depth is a key's.
func (m model) depth(k api.Id, s string) int {
	switch {
	case !path.Prefix(s):
		return -1
	case k == m.root:
		return 9
	}
	depth := -1
	for _, g := range m.grants {
		if g.Key == k && covers(g.Prefix, s) {
			depth = max(depth, g.Depth)
		}
	}
	return depth
}

// keys are those with a depth.
func (m model) keys(s string) []api.Id {
	var l []api.Id
	for _, k := range append([]api.Id{m.root}, keysOf(m.grants)...) {
		if m.depth(k, s) != -1 {
			l = append(l, k)
		}
	}
	slices.SortFunc(l, compare)
	return slices.Compact(l)
}

// keysOf are the keys of grants, each once.
func keysOf(l []grant.Grant) []api.Id {
	var keys []api.Id
	for _, g := range l {
		if !slices.Contains(keys, g.Key) {
			keys = append(keys, g.Key)
		}
	}
	return keys
}

// compare tells how two keys stand.
func compare(a, b api.Id) int { return strings.Compare(string(a[:]), string(b[:])) }

// sorted are the grants in their order.
func (m model) sorted() []grant.Grant {
	l := slices.Clone(m.grants)
	text := func(g grant.Grant) string {
		// Of two prefixes, one of which begins with the other, that is the lesser: no byte of a path is 0.
		return g.Prefix + "\x00" + string(g.Key[:]) + string(g.By[:]) + strconv.Itoa(g.Depth)
	}
	slices.SortFunc(l, func(a, b grant.Grant) int { return strings.Compare(text(a), text(b)) })
	return l
}

// apply does an operation, by the words.
func (m *model) apply(k api.Id, o api.Op) api.Errno {
	if e := op.Right(o); e != api.OK {
		return e
	}
	if !op.Policy(o) {
		return api.ErrArg
	}
	if o.Kind == api.Revoke {
		return m.revoke(k, o)
	}
	g := grant.Grant{Prefix: o.Path, Key: o.Key, By: k, Depth: o.Depth}
	switch {
	case m.depth(k, o.Path) <= o.Depth:
		return api.ErrRight
	case slices.Contains(m.grants, g) || o.Key == m.root:
		return api.ErrSame
	case len(m.grants) >= 500:
		return api.ErrFull
	}
	m.grants = append(slices.Clone(m.grants), g)
	return api.OK
}

// revoke does a Revoke, by the words: behind the first grants one goes at a time.
func (m *model) revoke(k api.Id, o api.Op) api.Errno {
	if m.depth(k, o.Path) < 1 {
		return api.ErrRight
	}
	before := len(m.grants)
	m.grants = slices.DeleteFunc(slices.Clone(m.grants), func(g grant.Grant) bool { return g.Key == o.Key && covers(o.Path, g.Prefix) })
	if len(m.grants) == before {
		return api.ErrNone
	}
	for {
		at := slices.IndexFunc(m.grants, func(g grant.Grant) bool {
			return g.By != m.root && m.depth(g.By, g.Prefix) <= g.Depth
		})
		if at < 0 {
			return api.OK
		}
		m.grants = slices.Delete(slices.Clone(m.grants), at, at+1)
	}
}

// may tells whether a key may do an operation, by the words.
func (m model) may(k api.Id, o api.Op) bool {
	if op.Policy(o) {
		return m.apply(k, o) == api.OK
	}
	return op.Right(o) == api.OK && m.depth(k, o.Path) != -1 && (o.Kind != api.Move || m.depth(k, o.To) != -1)
}

// texts are prefixes, of which some cover others, and texts that are none.
var texts = []string{"", "a", "a/b", "a/b/c", "a/bc", "a-", "a.b", "a0", "b", "/", "a/", "/a", "A", "a//b", "..", "a\x00"}

// looks holds a table against a model.
func looks(t *testing.T, g *grant.Table, m model, keys []api.Id, texts []string) {
	t.Helper()
	l := g.Grants()
	if g.Root() != m.root || !slices.Equal(l, m.sorted()) {
		t.Fatalf("%x, %v, not %v", g.Root(), l, m.sorted())
	}
	for _, x := range l {
		if x.By != m.root && g.Depth(x.By, x.Prefix) <= x.Depth {
			t.Fatalf("%v: nothing upholds %v", l, x)
		}
	}
	for _, s := range texts {
		if k := g.Keys(s); !slices.Equal(k, m.keys(s)) {
			t.Fatalf("%v: keys at %q %x, not %x", l, s, k, m.keys(s))
		}
		for _, k := range append(keys, m.root) {
			if n := g.Depth(k, s); n != m.depth(k, s) {
				t.Fatalf("%v: %x at %q has %d, not %d", l, k, s, n, m.depth(k, s))
			}
		}
	}
}

// does does an operation to a table and a model, and tells what was told.
func does(t *testing.T, g *grant.Table, m *model, k api.Id, o api.Op) api.Errno {
	t.Helper()
	before := m.sorted()
	if may := g.May(k, o); may != m.may(k, o) || !slices.Equal(g.Grants(), before) {
		t.Fatalf("%v: %x, %v: %v", before, k, o, may)
	}
	want := m.apply(k, o)
	if e := g.Apply(k, o); e != want {
		t.Fatalf("%v: %x, %v: %d, not %d", before, k, o, e, want)
	}
	if l := g.Grants(); want != api.OK && !slices.Equal(l, before) {
		t.Fatalf("%v: %x, %v: %v", before, k, o, l)
	}
	return want
}

// P19.1, P19.2. All rows of some operations by some keys, as far as they change something.
func TestRows(t *testing.T) {
	keys := []api.Id{key(3), root, key(200)}
	prefixes := []string{"", "a"}
	var ops []api.Op
	for _, k := range keys {
		for _, s := range prefixes {
			ops = append(ops, give(s, k, 0), give(s, k, 1), give(s, k, 2), take(s, k))
		}
	}
	seen := map[api.Errno]int{}
	var walk func(g *grant.Table, m model, left int)
	walk = func(g *grant.Table, m model, left int) {
		looks(t, g, m, keys, []string{"", "a", "a/b", "b", "a/"})
		for _, k := range keys {
			for _, o := range ops {
				next, n := g.Clone(), m
				e := does(t, next, &n, k, o)
				seen[e]++
				if e == api.OK && left > 0 {
					walk(next, n, left-1)
				}
			}
		}
	}
	walk(grant.New(root), model{root: root}, 3)
	for _, e := range []api.Errno{api.OK, api.ErrRight, api.ErrSame, api.ErrNone} {
		if seen[e] < 100 {
			t.Errorf("%d: %d", e, seen[e])
		}
	}
}

// P19.1, P19.2. Long rows of operations by many keys, at prefixes that cover one another, right ones and wrong ones.
func TestLongRows(t *testing.T) {
	r := rand.New(rand.NewSource(19))
	var keys []api.Id
	for n := range 6 {
		keys = append(keys, key(n*45))
	}
	someone := func() api.Id { return append(keys, root)[r.Intn(7)] }
	for range 40 {
		g, m := grant.New(root), model{root: root}
		seen, most := map[api.Errno]int{}, 0
		for range 300 {
			s := texts[r.Intn(9)]
			o := give(s, someone(), r.Intn(9))
			switch r.Intn(12) {
			case 0, 1:
				o = take(s, someone())
			case 2:
				o = []api.Op{{Kind: api.Create, Path: "a"}, {}, give(texts[r.Intn(len(texts))], someone(), r.Intn(12)-2), take(texts[r.Intn(len(texts))], someone()), {Kind: api.Move, Path: "a", To: "b"}}[r.Intn(5)]
			}
			k := someone()
			if r.Intn(4) == 0 {
				k = root
			}
			seen[does(t, g, &m, k, o)]++
			most = max(most, len(m.grants))
			looks(t, g, m, keys, texts[:9])
		}
		looks(t, g, m, keys, texts)
		if seen[api.OK] < 10 || seen[api.ErrRight] < 10 || most < 5 {
			t.Error(seen, most)
		}
	}
}

// step is an operation by a key, and what is told of it.
type step struct {
	by   api.Id
	o    api.Op
	want api.Errno
}

// steps does steps, and looks at the table behind each.
func steps(t *testing.T, g *grant.Table, m *model, l ...step) {
	t.Helper()
	for i, x := range l {
		if e := does(t, g, m, x.by, x.o); e != x.want {
			t.Fatalf("%d: %x, %v: %d, not %d", i, x.by, x.o, e, x.want)
		}
		looks(t, g, *m, keysOf(m.grants), texts)
	}
}

// P19.1. The example, and others of what goes with a grant, and what stays.
func TestRevoke(t *testing.T) {
	a, b, c := key(1), key(2), key(3)
	for i, x := range []struct {
		ops  []step
		left []grant.Grant
	}{
		{[]step{{root, give("lib", a, 1), 0}, {a, give("lib/x", b, 0), 0}, {root, take("", a), 0}}, nil},
		{[]step{{root, give("lib", a, 1), 0}, {a, give("lib/x", b, 0), 0}, {root, take("lib/x", a), api.ErrNone}, {root, take("lib/x", b), 0}}, []grant.Grant{{Prefix: "lib", Key: a, By: root, Depth: 1}}},
		// Another grant upholds it.
		{[]step{{root, give("", a, 1), 0}, {root, give("a", a, 3), 0}, {a, give("a", b, 0), 0}, {a, give("a", b, 2), 0}, {root, take("a", a), 0}}, []grant.Grant{{Key: a, By: root, Depth: 1}, {Prefix: "a", Key: b, By: a}}},
		// What the root grants itself stays, and what by others goes with these.
		{[]step{{root, give("a", a, 8), 0}, {a, give("a/b", c, 2), 0}, {root, give("a/b", c, 1), 0}, {c, give("a/b", b, 1), 0}, {c, give("a/b", b, 0), 0}, {root, take("a", a), 0}}, []grant.Grant{{Prefix: "a/b", Key: b, By: c}, {Prefix: "a/b", Key: c, By: root, Depth: 1}}},
		// A key may take back its own, and what it gave itself goes with that.
		{[]step{{root, give("a", a, 3), 0}, {a, give("a/b", a, 2), 0}, {a, give("a/b", b, 1), 0}, {a, take("a/b", a), 0}}, []grant.Grant{{Prefix: "a", Key: a, By: root, Depth: 3}, {Prefix: "a/b", Key: b, By: a, Depth: 1}}},
		{[]step{{root, give("a", a, 3), 0}, {a, give("a/b", a, 2), 0}, {a, give("a/b", b, 1), 0}, {a, take("a", a), 0}}, nil},
		// Those that gave each other something don't uphold each other.
		{[]step{{root, give("", a, 4), 0}, {a, give("", b, 3), 0}, {b, give("", a, 2), 0}, {a, give("", b, 1), 0}, {b, give("", a, 0), 0}, {root, take("", b), 0}}, []grant.Grant{{Key: a, By: root, Depth: 4}}},
		{[]step{{root, give("", a, 4), 0}, {a, give("", b, 3), 0}, {b, give("", a, 2), 0}, {a, give("", c, 1), 0}, {b, take("", a), 0}}, nil},
		// Depth 1 is enough, whoever granted what goes; a prefix that is covered isn't.
		{[]step{{root, give("a", a, 1), 0}, {root, give("a/b", b, 8), 0}, {a, take("a", b), 0}, {a, take("", a), api.ErrRight}, {a, take("a-", a), api.ErrRight}}, []grant.Grant{{Prefix: "a", Key: a, By: root, Depth: 1}}},
		{[]step{{root, give("a", a, 0), 0}, {root, give("a", b, 0), 0}, {a, take("a", b), api.ErrRight}, {a, take("a", c), api.ErrRight}, {c, take("a", c), api.ErrRight}}, []grant.Grant{{Prefix: "a", Key: a, By: root}, {Prefix: "a", Key: b, By: root}}},
		// Only what the prefix covers goes.
		{[]step{{root, give("a", a, 1), 0}, {root, give("a/b", a, 1), 0}, {root, give("a/bc", a, 1), 0}, {root, give("a/b/c", a, 1), 0}, {root, give("", a, 1), 0}, {root, give("a-", a, 1), 0}, {root, take("a/b", a), 0}}, []grant.Grant{{Key: a, By: root, Depth: 1}, {Prefix: "a", Key: a, By: root, Depth: 1}, {Prefix: "a-", Key: a, By: root, Depth: 1}, {Prefix: "a/bc", Key: a, By: root, Depth: 1}}},
	} {
		g, m := grant.New(root), model{root: root}
		steps(t, g, &m, x.ops...)
		if l := g.Grants(); !slices.Equal(l, x.left) {
			t.Errorf("%d: %v, not %v", i, l, x.left)
		}
	}
}

// P19.1, P19.2. A row of keys, each of which grants less to the next one: where one is taken back, all behind it go.
func TestChain(t *testing.T) {
	for from := range 9 {
		g, m := grant.New(root), model{root: root}
		by := root
		for n := range 9 {
			steps(t, g, &m, step{by, give("a", key(n), 9-n), map[bool]api.Errno{true: api.ErrRange, false: api.ErrRight}[n == 0]}, step{by, give("a", key(n), 8-n), api.OK})
			by = key(n)
		}
		steps(t, g, &m, step{by, give("a/b", key(20), 0), api.ErrRight}, step{root, take("a", key(from)), api.OK})
		if len(g.Grants()) != from {
			t.Errorf("%d: %v", from, g.Grants())
		}
	}
}

// P19.1. Of several errors the one that is named first.
func TestErrors(t *testing.T) {
	a, b := key(1), key(2)
	g, m := grant.New(root), model{root: root}
	steps(t, g, &m, step{root, give("a", a, 2), api.OK}, step{a, give("a", b, 1), api.OK}, step{root, give("b", b, 0), api.OK})
	long := strings.Repeat("x", 201)
	for _, k := range []api.Id{root, a, b, key(3), {}} {
		for _, o := range []api.Op{{}, {Kind: -1}, {Kind: 7, Path: "a"}, {Kind: api.Create, Path: "a"}, {Kind: api.Create, Path: "c"}, {Kind: api.Remove, Path: "a"}, {Kind: api.Edit, Path: "a", New: []string{"x"}}, {Kind: api.Move, Path: "a", To: "b"}} {
			steps(t, g, &m, step{k, o, api.ErrArg})
		}
		for _, o := range []api.Op{give("/", root, 9), give(long, a, 0), give("A", a, 2), take("a/", b), take(long, b), {Kind: api.Revoke, Path: "a", Key: b, Depth: 1}, {Kind: api.Grant, Path: "a", To: "b", Depth: 99}, {Kind: api.Create, Path: "A"}, {Kind: api.Create, Path: "a", Key: a}, {Kind: api.Edit, Path: "a"}, {Kind: api.Move, Path: "a", To: "a"}} {
			steps(t, g, &m, step{k, o, api.ErrForm})
		}
		for _, o := range []api.Op{give("a", b, 9), give("", root, 9), give("a", a, -1), give("q", a, 1<<60)} {
			steps(t, g, &m, step{k, o, api.ErrRange})
		}
	}
	steps(t, g, &m,
		step{root, give("a", a, 2), api.ErrSame}, step{a, give("a", b, 1), api.ErrSame}, step{root, give("a", root, 0), api.ErrSame}, step{root, give("", root, 8), api.ErrSame}, step{a, give("a/b", root, 1), api.ErrSame},
		step{a, give("a/b", root, 2), api.ErrRight}, step{b, give("b", root, 0), api.ErrRight}, step{key(3), give("a", root, 0), api.ErrRight}, step{a, give("a-", root, 0), api.ErrRight}, step{a, give("", b, 0), api.ErrRight}, step{a, give("a", a, 2), api.ErrRight},
		step{b, take("b", b), api.ErrRight}, step{b, take("b", root), api.ErrRight}, step{key(3), take("", b), api.ErrRight}, step{a, take("", b), api.ErrRight}, step{a, take("b", key(3)), api.ErrRight},
		step{root, take("", root), api.ErrNone}, step{root, take("", key(3)), api.ErrNone}, step{root, take("a/b", a), api.ErrNone}, step{a, take("a/b", b), api.ErrNone}, step{b, take("a", a), api.OK},
		// What a grant differs in makes another one.
		step{root, give("a", a, 2), api.OK}, step{root, give("a", a, 1), api.OK}, step{root, give("a", a, 3), api.OK}, step{root, give("a/b", a, 2), api.OK}, step{a, give("a", a, 2), api.OK}, step{a, give("a", a, 2), api.ErrSame}, step{root, give("a", b, 2), api.OK},
	)
}

// P19.1. There are at most 500 grants; that there are is told behind all else.
func TestFull(t *testing.T) {
	a, b := key(1), key(2)
	g, m := grant.New(root), model{root: root}
	for n := range 500 {
		by, o := root, give("a/"+strconv.Itoa(n), b, n%9)
		if n == 0 {
			o = give("a", a, 2)
		} else if n%2 == 0 {
			by, o.Depth = a, n%4/2
		}
		if e := does(t, g, &m, by, o); e != api.OK {
			t.Fatalf("%d: %d", n, e)
		}
	}
	steps(t, g, &m,
		step{root, give("a/500", b, 0), api.ErrFull}, step{a, give("a/500", b, 0), api.ErrFull}, step{root, give("a", a, 1), api.ErrFull}, step{root, give("", b, 8), api.ErrFull},
		step{root, give("a", a, 2), api.ErrSame}, step{root, give("", root, 0), api.ErrSame}, step{a, give("a", root, 1), api.ErrSame},
		step{a, give("a", b, 2), api.ErrRight}, step{a, give("b", b, 0), api.ErrRight}, step{key(3), give("a/1", b, 0), api.ErrRight}, step{root, give("a/500", b, 9), api.ErrRange}, step{root, api.Op{Kind: api.Create, Path: "a"}, api.ErrArg},
		step{root, take("a/500", b), api.ErrNone}, step{a, take("a/7", b), api.OK}, step{root, give("a/500", b, 0), api.OK}, step{root, give("a/7", b, 0), api.ErrFull},
		step{root, take("a", a), api.OK}, step{root, give("a/7", b, 0), api.OK},
	)
	if n := len(g.Grants()); n != 251 {
		t.Error(n)
	}
}

// P19.1. Grants stand in the order of Prefix, Key, By, as bytes, then Depth, in whatever order they came.
func TestOrder(t *testing.T) {
	low, high := api.Id{0: 0x7f, 31: 0xff}, api.Id{0: 0x80}
	base := []step{{root, give("", low, 8), 0}, {root, give("", high, 8), 0}}
	var more []step
	for _, s := range []string{"a", "a-b", "a.b", "a/b", "a/b/c", "a0", "b", "aa", "_"} {
		for _, by := range []api.Id{root, low, high} {
			more = append(more, step{by, give(s, low, 7), 0}, step{by, give(s, high, 0), 0}, step{by, give(s, high, 1), 0}, step{by, give(s, key(0), 2), 0})
		}
	}
	r := rand.New(rand.NewSource(191))
	var before []grant.Grant
	for range 20 {
		g, m := grant.New(root), model{root: root}
		r.Shuffle(len(more), func(i, j int) { more[i], more[j] = more[j], more[i] })
		for _, x := range append(slices.Clone(base), more...) {
			if e := does(t, g, &m, x.by, x.o); e != x.want {
				t.Fatal(e)
			}
		}
		looks(t, g, m, []api.Id{low, high, key(0)}, texts)
		if before != nil && !slices.Equal(before, g.Grants()) {
			t.Fatal(g.Grants())
		}
		before = g.Grants()
	}
	want := []grant.Grant{{Key: low, By: root, Depth: 8}, {Key: high, By: root, Depth: 8}, {"_", key(0), root, 2}, {"_", key(0), low, 2}, {"_", key(0), high, 2}, {"_", low, root, 7}, {"_", low, low, 7}, {"_", low, high, 7}, {"_", high, root, 0}, {"_", high, root, 1}, {"_", high, low, 0}}
	if !slices.Equal(before[:len(want)], want) {
		t.Errorf("%v", before[:len(want)])
	}
}

// P19.1. Depths and keys at prefixes and paths; at what is none there are none, of the root neither.
func TestDepth(t *testing.T) {
	a, b := key(1), key(2)
	deep := strings.Repeat("a/", 15) + "a"
	long := strings.Repeat("x", 200)
	g, m := grant.New(root), model{root: root}
	fresh := []string{"", "a", deep, long}
	for _, s := range fresh {
		if g.Depth(root, s) != 9 || g.Depth(a, s) != -1 || !slices.Equal(g.Keys(s), []api.Id{root}) {
			t.Errorf("%q: %d, %d, %x", s, g.Depth(root, s), g.Depth(a, s), g.Keys(s))
		}
	}
	steps(t, g, &m, step{root, give("", b, 0), api.OK}, step{root, give("a", a, 5), api.OK}, step{root, give("a/a/a", a, 7), api.OK}, step{root, give("a/a", a, 6), api.OK}, step{root, give("a/a/a", a, 1), api.OK}, step{root, give(long, a, 8), api.OK}, step{root, give(deep, a, 4), api.OK})
	for s, want := range map[string]int{"": -1, "a": 5, "a/a": 6, "a/b": 5, "a/a/a": 7, deep: 7, "a/a/b": 6, "aa": -1, "a-": -1, "a.a/a": -1, long: 8, long[:199]: -1} {
		if n := g.Depth(a, s); n != want {
			t.Errorf("%q: %d, not %d", s, n, want)
		}
		keys := []api.Id{a, b, root}
		if want == -1 {
			keys = keys[1:]
		}
		if l := g.Keys(s); !slices.Equal(l, keys) || g.Depth(b, s) != 0 || g.Depth(root, s) != 9 {
			t.Errorf("%q: %x", s, l)
		}
	}
	for _, s := range []string{"/", "a/", "/a", "a//a", ".", "..", "a/..", "A", "a b", "\x00", "a\n", deep + "/a", long + "x", "\xff"} {
		for _, k := range []api.Id{root, a, b, key(3)} {
			if n := g.Depth(k, s); n != -1 {
				t.Errorf("%x at %q: %d", k, s, n)
			}
		}
		if l := g.Keys(s); len(l) != 0 {
			t.Errorf("%q: %x", s, l)
		}
	}
	looks(t, g, m, []api.Id{a, b}, append(texts, deep, long))
}

// P19.1. What a key may do needs a depth at each of its paths, and changes nothing.
func TestMay(t *testing.T) {
	a, b := key(1), key(2)
	g, m := grant.New(root), model{root: root}
	steps(t, g, &m, step{root, give("a", a, 0), api.OK}, step{root, give("b/c", a, 1), api.OK}, step{root, give("b/c", b, 3), api.OK})
	for _, x := range []struct {
		o       api.Op
		a, b, r bool
	}{
		{api.Op{Kind: api.Create, Path: "a"}, true, false, true}, {api.Op{Kind: api.Create, Path: "a/x/y"}, true, false, true}, {api.Op{Kind: api.Create, Path: "ab"}, false, false, true}, {api.Op{Kind: api.Create, Path: "b"}, false, false, true}, {api.Op{Kind: api.Remove, Path: "b/c", Old: []string{"x"}}, true, true, true}, {api.Op{Kind: api.Edit, Path: "b/c/d", Old: []string{"x"}}, true, true, true},
		{api.Op{Kind: api.Move, Path: "a", To: "b/c/d"}, true, false, true}, {api.Op{Kind: api.Move, Path: "b/c/d", To: "a/b"}, true, false, true}, {api.Op{Kind: api.Move, Path: "b/c", To: "b/c/d"}, true, true, true}, {api.Op{Kind: api.Move, Path: "b/d", To: "b/c"}, false, false, true}, {api.Op{Kind: api.Move, Path: "b/c", To: "b/d"}, false, false, true}, {api.Op{Kind: api.Move, Path: "q", To: "r"}, false, false, true},
		{api.Op{Kind: api.Create, Path: ""}, false, false, false}, {api.Op{Kind: api.Create, Path: "a/"}, false, false, false}, {api.Op{Kind: api.Edit, Path: "a"}, false, false, false}, {api.Op{Kind: api.Move, Path: "a", To: "a"}, false, false, false}, {api.Op{Path: "a"}, false, false, false}, {api.Op{Kind: 7, Path: "a"}, false, false, false}, {api.Op{Kind: api.Create, Path: "a", Depth: 1}, false, false, false},
		{give("b/c", key(3), 0), true, true, true}, {give("b/c/d", key(3), 1), false, true, true}, {give("b/c", key(3), 2), false, true, true}, {give("b/c", key(3), 3), false, false, true}, {give("b/c", root, 0), false, false, false}, {give("b/c", key(3), 9), false, false, false}, {give("b/c", b, 3), false, false, false}, {give("", a, 0), false, false, true}, {give("/", a, 0), false, false, false},
		{take("b/c", a), true, true, true}, {take("b/c", b), true, true, true}, {take("a", a), false, false, true}, {take("", b), false, false, true}, {take("b/c/d", b), false, false, false}, {take("b/c", root), false, false, false}, {take("b/", b), false, false, false},
	} {
		for k, want := range map[api.Id]bool{a: x.a, b: x.b, root: x.r, key(3): false} {
			if ok := g.May(k, x.o); ok != want || ok != m.may(k, x.o) {
				t.Errorf("%x, %v: %v", k, x.o, ok)
			}
		}
		looks(t, g, m, []api.Id{a, b}, texts)
	}
}

// P19.1. A root key may be any, the zero one, too; other keys may be it then.
func TestRoots(t *testing.T) {
	for _, k := range []api.Id{{}, key(255), {31: 1}} {
		g, m := grant.New(k), model{root: k}
		steps(t, g, &m, step{root, give("a", key(1), 0), api.ErrRight}, step{k, give("a", k, 0), api.ErrSame}, step{k, give("a", root, 8), api.OK}, step{root, give("a/b", api.Id{}, 7), map[bool]api.Errno{true: api.ErrSame}[k == api.Id{}]}, step{k, take("", root), api.OK})
		if g.Root() != k || len(g.Grants()) != 0 {
			t.Error(g.Root(), g.Grants())
		}
	}
}

// P19.1. A clone goes on by itself, and so does what it was made of.
func TestClone(t *testing.T) {
	r := rand.New(rand.NewSource(192))
	tables, models := []*grant.Table{grant.New(root)}, []model{{root: root}}
	for range 3000 {
		i := r.Intn(len(tables))
		if len(tables) < 40 && r.Intn(4) == 0 {
			tables, models = append(tables, tables[i].Clone()), append(models, models[i])
		}
		o := give(texts[r.Intn(9)], key(r.Intn(5)), r.Intn(9))
		if r.Intn(5) == 0 {
			o = take(texts[r.Intn(9)], key(r.Intn(5)))
		}
		by := root
		if r.Intn(3) > 0 {
			by = key(r.Intn(5))
		}
		does(t, tables[i], &models[i], by, o)
	}
	for i, g := range tables {
		looks(t, g, models[i], []api.Id{key(0), key(1), key(2), key(3), key(4)}, texts)
	}
}

// P19.1. What is told shares nothing, with a table neither.
func TestMemory(t *testing.T) {
	g, m := grant.New(root), model{root: root}
	for n := range 7 {
		steps(t, g, &m, step{root, give("a/"+strconv.Itoa(6-n), key(n), n), api.OK})
		l, other, keys, more := g.Grants(), g.Grants(), g.Keys("a/3"), g.Keys("a/3")
		for _, x := range [][]grant.Grant{l, g.Clone().Grants()} {
			x = x[:cap(x)]
			for i := range x {
				x[i] = grant.Grant{Prefix: "spoilt"}
			}
		}
		clear(keys[:cap(keys)])
		if !slices.Equal(other, m.sorted()) || !slices.Equal(more, m.keys("a/3")) {
			t.Fatal(other, more)
		}
		looks(t, g, m, []api.Id{key(3)}, texts)
	}
}
