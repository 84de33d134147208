package carry_test

import (
	"fmt"
	"math"
	"math/rand"
	"slices"
	"strconv"
	"strings"
	"testing"

	"quitclaim/api"
	"quitclaim/carry"
	"quitclaim/commute"
	"quitclaim/op"
	"quitclaim/tree"
)

// brief is the beginning of a value's text.
func brief(v any) string {
	s := fmt.Sprint(v)
	return s[:min(len(s), 500)]
}

// many is a row of so many lines, no two alike.
func many(n int) []string {
	l := make([]string, n)
	for i := range l {
		l[i] = strconv.Itoa(i)
	}
	return l
}

// create is an operation.
func create(s string) api.Op { return api.Op{Kind: api.Create, Path: s} }

// remove is an operation.
func remove(s string, lines ...string) api.Op {
	return api.Op{Kind: api.Remove, Path: s, Old: lines}
}

// edit is an operation that has so many old lines and new ones.
func edit(s string, at, old, new int) api.Op {
	return api.Op{Kind: api.Edit, Path: s, At: at, Old: many(old), New: many(new)}
}

// move is an operation.
func move(s, to string) api.Op { return api.Op{Kind: api.Move, Path: s, To: to} }

// grant is an operation.
func grant(s string) api.Op { return api.Op{Kind: api.Grant, Path: s, Key: api.Id{7}, Depth: 2} }

// revoke is an operation.
func revoke(s string) api.Op { return api.Op{Kind: api.Revoke, Path: s, Key: api.Id{7}} }

// wrong are operations that aren't right, with their errors.
func wrong() map[api.Errno][]api.Op {
	return map[api.Errno][]api.Op{
		api.ErrArg:   {{}, {Kind: 7, Path: "a"}, {Kind: -1, Path: "a"}, {Kind: math.MaxInt, Path: "A"}},
		api.ErrForm:  {create("A"), create(""), {Kind: 1, Path: "a", At: 1}, remove("a", "\n"), {Kind: 3, Path: "a"}, edit("a", 1001, 0, 1), edit("a", -1, 0, 1), edit("a", 0, 1001, 0), move("a", "a"), move("a", ""), {Kind: 5, Path: "a/"}, {Kind: 6, Depth: 1}},
		api.ErrRange: {{Kind: 5, Depth: 9}, {Kind: 5, Path: "a", Depth: -1}},
		api.ErrNone:  {grant("a"), grant(""), revoke("a"), revoke("")},
	}
}

// same tells whether two rows are one.
func same(a, b []api.Op) bool { return slices.EqualFunc(a, b, op.Same) }

// inverseOf is a row's inverse, by the words.
func inverseOf(l []api.Op) ([]api.Op, api.Errno) {
	if len(l) == 0 {
		return nil, api.OK
	}
	rest, o := l[:len(l)-1], l[len(l)-1]
	if e := op.Right(o); e != api.OK {
		return nil, e
	}
	var back []api.Op
	switch o.Kind {
	case api.Create:
		back = []api.Op{remove(o.Path)}
	case api.Remove:
		back = []api.Op{create(o.Path)}
		if len(o.Old) > 0 {
			back = append(back, api.Op{Kind: api.Edit, Path: o.Path, New: o.Old})
		}
	case api.Edit:
		back = []api.Op{{Kind: api.Edit, Path: o.Path, At: o.At, Old: o.New, New: o.Old}}
	case api.Move:
		back = []api.Op{move(o.To, o.Path)}
	default:
		return nil, api.ErrNone
	}
	more, e := inverseOf(rest)
	if e != api.OK {
		return nil, e
	}
	return append(back, more...), api.OK
}

// swapped are two rows in the other order, by the words, and whether they can be.
func swapped(a, b []api.Op) ([]api.Op, []api.Op, bool) {
	then, first := slices.Clone(a), slices.Clone(b)
	for k := range first {
		for i := range then {
			i = len(then) - 1 - i
			var ok bool
			if first[k], then[i], ok = commute.Swap(then[i], first[k]); !ok {
				return nil, nil, false
			}
		}
	}
	return first, then, true
}

// overOf is a row carried over another one, by the words.
func overOf(l, other []api.Op) ([]api.Op, api.Errno) {
	back, e := inverseOf(other)
	if e != api.OK {
		return nil, e
	}
	return withoutOf(back, l)
}

// withoutOf is a row with another one taken out from under it, by the words.
func withoutOf(under, l []api.Op) ([]api.Op, api.Errno) {
	first, _, ok := swapped(under, l)
	if !ok {
		return nil, api.ErrClash
	}
	return first, api.OK
}

// dropOf is rows without the row i, and that row behind all others, by the words.
func dropOf(rows [][]api.Op, i int) ([][]api.Op, []api.Op, api.Errno) {
	if i < 0 || i >= len(rows) {
		return nil, nil, api.ErrRange
	}
	l := slices.Clone(rows)
	for ; i+1 < len(l); i++ {
		first, then, ok := swapped(l[i], l[i+1])
		if !ok {
			return nil, nil, api.ErrClash
		}
		l[i], l[i+1] = first, then
	}
	return l[:i], l[i], api.OK
}

// undoOf is what undoes the row i behind all rows, by the words.
func undoOf(rows [][]api.Op, i int) ([]api.Op, api.Errno) {
	_, row, e := dropOf(rows, i)
	if e != api.OK {
		return nil, e
	}
	return inverseOf(row)
}

// pair looks at the calls of two rows.
func pair(t *testing.T, a, b []api.Op) (over, without api.Errno) {
	t.Helper()
	want, wrong := overOf(a, b)
	l, e := carry.Over(a, b)
	if !same(l, want) || e != wrong {
		t.Fatalf("%s over %s: %s, %d, not %s, %d", brief(a), brief(b), brief(l), e, brief(want), wrong)
	}
	want, wrong = withoutOf(a, b)
	l, f := carry.Without(a, b)
	if !same(l, want) || f != wrong {
		t.Fatalf("%s without %s: %s, %d, not %s, %d", brief(b), brief(a), brief(l), f, brief(want), wrong)
	}
	return e, f
}

// dropped looks at the calls of rows.
func dropped(t *testing.T, rows [][]api.Op, i int) (drop, undo api.Errno) {
	t.Helper()
	want, _, wrong := dropOf(rows, i)
	l, e := carry.Drop(rows, i)
	if !slices.EqualFunc(l, want, same) || e != wrong {
		t.Fatalf("%s without the row %d: %s, %d, not %s, %d", brief(rows), i, brief(l), e, brief(want), wrong)
	}
	back, wrong := undoOf(rows, i)
	m, f := carry.Undo(rows, i)
	if !same(m, back) || f != wrong {
		t.Fatalf("%s, the row %d undone: %s, %d, not %s, %d", brief(rows), i, brief(m), f, brief(back), wrong)
	}
	return e, f
}

// choice are operations of all kinds, some of which touch, and some of which aren't right.
func choice() []api.Op {
	return []api.Op{
		create("a"), create("b"), remove("c"), remove("c", "x", "y"), move("b", "d"), move("d", "a/e"), grant("a"), revoke(""), create("A"), {Kind: 9},
		edit("e", 0, 0, 2), edit("e", 0, 3, 0), edit("e", 4, 1, 3), edit("e", 9, 0, 1), edit("e", 1000, 0, 1), edit("e", 20, 2, 2), edit("a", 9, 0, 1), edit("e", 1001, 0, 1),
	}
}

// short are all rows of at most so many operations.
func short(most int) [][]api.Op {
	l, row := [][]api.Op{nil}, [][]api.Op{nil}
	for range most {
		var next [][]api.Op
		for _, r := range row {
			for _, o := range choice() {
				next = append(next, append(slices.Clone(r), o))
			}
		}
		l, row = append(l, next...), next
	}
	return l
}

// P34.1. All short rows: each operation's inverse, from the last one on, or the first error from there on.
func TestInverse(t *testing.T) {
	seen := map[api.Errno]int{}
	for _, l := range short(3) {
		want, wrong := inverseOf(l)
		back, e := carry.Inverse(l)
		if !same(back, want) || e != wrong {
			t.Fatalf("%s: %s, %d, not %s, %d", brief(l), brief(back), e, brief(want), wrong)
		}
		seen[e]++
	}
	if seen[api.OK] == 0 || seen[api.ErrArg] == 0 || seen[api.ErrForm] == 0 || seen[api.ErrNone] == 0 {
		t.Error(seen)
	}
}

// P34.1. Told one by one.
func TestInverseByHand(t *testing.T) {
	for i, c := range []struct{ l, want []api.Op }{
		{nil, nil}, {[]api.Op{}, nil}, {[]api.Op{create("a")}, []api.Op{remove("a")}}, {[]api.Op{remove("a")}, []api.Op{create("a")}}, {[]api.Op{remove("a", "0", "1")}, []api.Op{create("a"), edit("a", 0, 0, 2)}}, {[]api.Op{edit("a", 7, 2, 3)}, []api.Op{edit("a", 7, 3, 2)}}, {[]api.Op{move("a", "b")}, []api.Op{move("b", "a")}},
		{[]api.Op{create("a"), edit("a", 0, 0, 2), move("a", "b"), remove("b", "0", "1"), create("c")}, []api.Op{remove("c"), create("b"), edit("b", 0, 0, 2), move("b", "a"), edit("a", 0, 2, 0), remove("a")}},
	} {
		if l, e := carry.Inverse(c.l); !same(l, c.want) || e != api.OK {
			t.Errorf("%d: %s, %d", i, brief(l), e)
		}
	}
}

// P34.1. Of several errors the one of the last operation that has one is told, of Inverse and of Over.
func TestInverseErrors(t *testing.T) {
	for e, l := range wrong() {
		for _, o := range l {
			for f, m := range wrong() {
				for _, p := range m {
					for _, c := range []struct {
						row  []api.Op
						want api.Errno
					}{{[]api.Op{o}, e}, {[]api.Op{o, p}, f}, {[]api.Op{p, o}, e}, {[]api.Op{p, create("a"), o, create("b")}, e}, {[]api.Op{o, create("a")}, e}, {[]api.Op{create("a"), o}, e}} {
						if l, e := carry.Inverse(c.row); l != nil || e != c.want {
							t.Fatalf("%s: %s, %d, not %d", brief(c.row), brief(l), e, c.want)
						}
						for _, l := range [][]api.Op{nil, {create("a")}, {p}} {
							if l, e := carry.Over(l, c.row); l != nil || e != c.want {
								t.Fatalf("over %s: %s, %d, not %d", brief(c.row), brief(l), e, c.want)
							}
						}
					}
				}
			}
		}
	}
}

// P34.1. All short rows over, and without, all others.
func TestOverAndWithout(t *testing.T) {
	over, without := map[api.Errno]int{}, map[api.Errno]int{}
	all := short(2)
	for _, a := range all {
		for _, b := range all {
			e, f := pair(t, a, b)
			over[e]++
			without[f]++
		}
	}
	if over[api.OK] < 1000 || over[api.ErrClash] < 1000 || over[api.ErrNone] == 0 || over[api.ErrForm] == 0 || over[api.ErrArg] == 0 || without[api.OK] < 1000 || without[api.ErrClash] < 1000 || len(without) != 2 {
		t.Error(over, without)
	}
}

// P34.1. Told one by one.
func TestOverByHand(t *testing.T) {
	one, two := edit("a", 0, 0, 1), edit("a", 9, 0, 1)
	bad := api.Op{Kind: 9}
	for i, c := range []struct {
		l, other, want []api.Op
		e              api.Errno
	}{
		{[]api.Op{two}, []api.Op{one}, []api.Op{edit("a", 10, 0, 1)}, api.OK}, {[]api.Op{one}, []api.Op{two}, []api.Op{one}, api.OK}, {[]api.Op{one}, []api.Op{one}, nil, api.ErrClash},
		{[]api.Op{two}, []api.Op{edit("a", 1, 4, 0)}, []api.Op{edit("a", 5, 0, 1)}, api.OK}, {[]api.Op{two}, []api.Op{edit("a", 1, 7, 3)}, []api.Op{edit("a", 5, 0, 1)}, api.OK}, {[]api.Op{two}, []api.Op{edit("a", 1, 8, 3)}, nil, api.ErrClash}, {[]api.Op{two}, []api.Op{edit("a", 10, 8, 3)}, []api.Op{two}, api.OK}, {[]api.Op{edit("a", 9, 1, 0)}, []api.Op{edit("a", 10, 8, 3)}, nil, api.ErrClash},
		{[]api.Op{two}, []api.Op{one, edit("a", 3, 1, 4), edit("b", 0, 0, 1)}, []api.Op{edit("a", 13, 0, 1)}, api.OK}, {[]api.Op{two, edit("a", 20, 1, 1)}, []api.Op{one, edit("a", 15, 0, 4)}, []api.Op{edit("a", 10, 0, 1), edit("a", 25, 1, 1)}, api.OK},
		{[]api.Op{create("a")}, []api.Op{create("b"), remove("c", "x")}, []api.Op{create("a")}, api.OK}, {[]api.Op{create("a")}, []api.Op{create("b"), create("a/c")}, nil, api.ErrClash}, {[]api.Op{move("a", "b")}, []api.Op{move("c", "b/d")}, nil, api.ErrClash}, {[]api.Op{grant("a"), revoke("")}, []api.Op{create("a")}, []api.Op{grant("a"), revoke("")}, api.OK}, {[]api.Op{create("a")}, []api.Op{grant("b")}, nil, api.ErrNone},
		{nil, nil, nil, api.OK}, {nil, []api.Op{one}, nil, api.OK}, {[]api.Op{one, bad}, nil, []api.Op{one, bad}, api.OK}, {[]api.Op{bad}, []api.Op{create("b")}, nil, api.ErrClash}, {[]api.Op{create("b")}, []api.Op{bad}, nil, api.ErrArg},
		{[]api.Op{edit("a", 999, 0, 1)}, []api.Op{edit("a", 0, 0, 5)}, []api.Op{edit("a", 1004, 0, 1)}, api.OK}, {[]api.Op{edit("a", 999, 0, 1)}, []api.Op{edit("b", 0, 0, 5), edit("a", 0, 0, 5)}, []api.Op{edit("a", 1004, 0, 1)}, api.OK}, {[]api.Op{edit("a", 999, 0, 1)}, []api.Op{edit("a", 0, 0, 5), edit("b", 0, 0, 5)}, nil, api.ErrClash},
	} {
		if l, e := carry.Over(c.l, c.other); !same(l, c.want) || e != c.e {
			t.Errorf("%d: %s, %d", i, brief(l), e)
		}
	}
	for i, c := range []struct {
		under, l, want []api.Op
		e              api.Errno
	}{
		{[]api.Op{one}, []api.Op{two}, []api.Op{edit("a", 8, 0, 1)}, api.OK}, {[]api.Op{two}, []api.Op{one}, []api.Op{one}, api.OK}, {[]api.Op{one}, []api.Op{one}, nil, api.ErrClash}, {[]api.Op{edit("a", 1, 4, 0)}, []api.Op{two}, []api.Op{edit("a", 13, 0, 1)}, api.OK},
		{[]api.Op{create("b"), one, grant("a")}, []api.Op{two, move("c", "d")}, []api.Op{edit("a", 8, 0, 1), move("c", "d")}, api.OK}, {[]api.Op{create("b"), grant("b")}, []api.Op{two, edit("b", 0, 0, 1)}, nil, api.ErrClash}, {[]api.Op{create("a"), edit("a", 0, 0, 9)}, []api.Op{move("a", "b")}, nil, api.ErrClash},
		{nil, nil, nil, api.OK}, {nil, []api.Op{bad}, []api.Op{bad}, api.OK}, {[]api.Op{bad}, nil, nil, api.OK}, {[]api.Op{bad}, []api.Op{one}, nil, api.ErrClash}, {[]api.Op{grant("a")}, []api.Op{revoke("a")}, []api.Op{revoke("a")}, api.OK},
	} {
		if l, e := carry.Without(c.under, c.l); !same(l, c.want) || e != c.e {
			t.Errorf("%d: %s, %d", i, brief(l), e)
		}
	}
}

// some is a row of any operations, most of which are apart.
func some(r *rand.Rand, most int) []api.Op {
	l := make([]api.Op, r.Intn(most+1))
	for i := range l {
		l[i] = choice()[r.Intn(18)]
		if l[i].Kind == api.Edit && r.Intn(30) > 0 {
			l[i].At = r.Intn(80)
		} else if l[i].Kind <= api.Move && r.Intn(30) > 0 {
			l[i] = create("f/" + strconv.Itoa(r.Intn(40)))
		}
	}
	return l
}

// P34.1. Longer rows, at any place.
func TestLongRows(t *testing.T) {
	r := rand.New(rand.NewSource(34))
	over, drop, undo := map[api.Errno]int{}, map[api.Errno]int{}, map[api.Errno]int{}
	for range 10000 {
		e, _ := pair(t, some(r, 5), some(r, 5))
		over[e]++
		rows := make([][]api.Op, r.Intn(5))
		for i := range rows {
			rows[i] = some(r, 3)
		}
		e, f := dropped(t, rows, r.Intn(7)-1)
		drop[e]++
		undo[f]++
	}
	for _, e := range []api.Errno{api.OK, api.ErrClash} {
		if over[e] < 100 || drop[e] < 100 || undo[e] < 100 {
			t.Error(over, drop, undo)
		}
	}
	if drop[api.ErrRange] == 0 || undo[api.ErrRange] == 0 || undo[api.ErrNone] == 0 || undo[api.ErrArg] == 0 || undo[api.ErrForm] == 0 || len(drop) != 3 {
		t.Error(drop, undo)
	}
}

// P34.1. All short rows of short rows, at each place.
func TestDropAndUndo(t *testing.T) {
	var choice [][]api.Op
	for _, l := range [][]api.Op{nil, {create("a")}, {create("b"), grant("b")}, {edit("e", 0, 0, 2)}, {edit("e", 9, 2, 0), edit("e", 3, 0, 1)}, {edit("e", 20, 1, 2), remove("c", "x")}, {move("b", "c")}, {create("A")}, {edit("e", 999, 0, 1)}, {edit("e", 6, 5, 0)}} {
		choice = append(choice, l)
	}
	drop, undo := map[api.Errno]int{}, map[api.Errno]int{}
	look := func(rows ...[]api.Op) {
		for i := -1; i <= len(rows); i++ {
			e, f := dropped(t, rows, i)
			drop[e]++
			undo[f]++
		}
	}
	look()
	for _, a := range choice {
		look(a)
		for _, b := range choice {
			look(a, b)
			for _, c := range choice {
				look(a, b, c)
			}
		}
	}
	if drop[api.OK] < 100 || drop[api.ErrClash] < 100 || undo[api.OK] < 100 || undo[api.ErrClash] < 100 || undo[api.ErrNone] == 0 || undo[api.ErrForm] == 0 {
		t.Error(drop, undo)
	}
}

// P34.1. Told one by one.
func TestDropByHand(t *testing.T) {
	one, two := []api.Op{edit("a", 0, 0, 1)}, []api.Op{edit("a", 9, 0, 2)}
	row := func(l ...api.Op) []api.Op { return l }
	for i, c := range []struct {
		rows       [][]api.Op
		i          int
		want       [][]api.Op
		drop, undo api.Errno
		back       []api.Op
	}{
		{[][]api.Op{one, two, row(create("b"))}, 0, [][]api.Op{row(edit("a", 8, 0, 2)), row(create("b"))}, api.OK, api.OK, row(edit("a", 0, 1, 0))},
		{[][]api.Op{two, one, row(edit("a", 4, 3, 0))}, 0, [][]api.Op{one, row(edit("a", 4, 3, 0))}, api.OK, api.OK, row(edit("a", 7, 2, 0))},
		{[][]api.Op{one, two, row(create("b"))}, 1, [][]api.Op{one, row(create("b"))}, api.OK, api.OK, row(edit("a", 9, 2, 0))},
		{[][]api.Op{one, two, row(create("b"))}, 2, [][]api.Op{one, two}, api.OK, api.OK, row(remove("b"))},
		{[][]api.Op{one}, 0, nil, api.OK, api.OK, row(edit("a", 0, 1, 0))}, {[][]api.Op{nil}, 0, nil, api.OK, api.OK, nil}, {[][]api.Op{nil, one}, 0, [][]api.Op{one}, api.OK, api.OK, nil}, {[][]api.Op{one, nil}, 0, [][]api.Op{nil}, api.OK, api.OK, row(edit("a", 0, 1, 0))}, {[][]api.Op{nil, nil, one}, 2, [][]api.Op{nil, nil}, api.OK, api.OK, row(edit("a", 0, 1, 0))},
		{nil, 0, nil, api.ErrRange, api.ErrRange, nil}, {nil, -1, nil, api.ErrRange, api.ErrRange, nil}, {[][]api.Op{one, one}, 2, nil, api.ErrRange, api.ErrRange, nil}, {[][]api.Op{one, one}, -1, nil, api.ErrRange, api.ErrRange, nil}, {[][]api.Op{one, one}, math.MaxInt, nil, api.ErrRange, api.ErrRange, nil}, {[][]api.Op{one, one}, math.MinInt, nil, api.ErrRange, api.ErrRange, nil},
		{[][]api.Op{one, one}, 0, nil, api.ErrClash, api.ErrClash, nil}, {[][]api.Op{one, one}, 1, [][]api.Op{one}, api.OK, api.OK, row(edit("a", 0, 1, 0))}, {[][]api.Op{row(create("b")), one, row(edit("b", 0, 0, 1))}, 0, nil, api.ErrClash, api.ErrClash, nil}, {[][]api.Op{row(create("b")), one, row(edit("b", 0, 0, 1))}, 1, [][]api.Op{row(create("b")), row(edit("b", 0, 0, 1))}, api.OK, api.OK, row(edit("a", 0, 1, 0))},
		// As it becomes by the first swap, it touches the third row; as it was, it would not.
		{[][]api.Op{two, row(edit("a", 0, 0, 9)), row(edit("a", 18, 1, 0))}, 0, nil, api.ErrClash, api.ErrClash, nil}, {[][]api.Op{two, row(edit("a", 0, 0, 9)), row(edit("a", 9, 1, 0))}, 0, [][]api.Op{row(edit("a", 0, 0, 9)), row(edit("a", 9, 1, 0))}, api.OK, api.OK, row(edit("a", 17, 2, 0))},
		{[][]api.Op{row(grant("a")), one}, 0, [][]api.Op{one}, api.OK, api.ErrNone, nil}, {[][]api.Op{row(create("a"), revoke("b")), one}, 0, nil, api.ErrClash, api.ErrClash, nil}, {[][]api.Op{row(api.Op{Kind: 9}), one}, 0, nil, api.ErrClash, api.ErrClash, nil}, {[][]api.Op{row(api.Op{Kind: 9}), nil}, 0, [][]api.Op{nil}, api.OK, api.ErrArg, nil}, {[][]api.Op{row(api.Op{Kind: 9}), one}, 1, nil, api.OK, api.OK, row(edit("a", 0, 1, 0))}, {[][]api.Op{row(create("b"), api.Op{Kind: 5, Depth: 9})}, 0, nil, api.OK, api.ErrRange, nil},
		{[][]api.Op{row(edit("a", 999, 1, 0)), row(edit("a", 0, 0, 5))}, 0, [][]api.Op{row(edit("a", 0, 0, 5))}, api.OK, api.ErrForm, nil}, {[][]api.Op{row(edit("a", 999, 1, 0)), row(edit("a", 0, 0, 5)), row(create("b"))}, 0, nil, api.ErrClash, api.ErrClash, nil},
	} {
		if c.drop == api.OK && c.want == nil && len(c.rows) > 1 {
			c.want = c.rows[:1]
		}
		if l, e := carry.Drop(c.rows, c.i); !slices.EqualFunc(l, c.want, same) || e != c.drop {
			t.Errorf("%d: %s, %d", i, brief(l), e)
		}
		if l, e := carry.Undo(c.rows, c.i); !same(l, c.back) || e != c.undo {
			t.Errorf("%d: %s, %d", i, brief(l), e)
		}
	}
}

// changes are operations that change small trees.
func changes() []api.Op {
	l := []api.Op{grant("a"), revoke("")}
	for _, p := range []string{"a", "a/b", "b", "c"} {
		l = append(l, create(p), remove(p), remove(p, "0", "1", "2"), remove(p, "0"))
		for _, to := range []string{"a", "a/b", "b", "c", "c/d"} {
			if to != p {
				l = append(l, move(p, to))
			}
		}
		for at := range 9 {
			l = append(l, edit(p, at, 0, 1), edit(p, at, 0, 3))
			for _, n := range []int{0, 1, 2} {
				o := edit(p, at, 0, n)
				o.Old = []string{strconv.Itoa(at)}
				l = append(l, o)
			}
		}
	}
	return l
}

// trees are small ones.
func trees(t *testing.T) []tree.Tree {
	t.Helper()
	var l []tree.Tree
	for _, files := range [][]tree.File{
		nil, {{Path: "a", Lines: many(3)}}, {{Path: "a", Lines: many(9)}, {Path: "b", Lines: many(3)}}, {{Path: "a/b", Lines: many(6)}, {Path: "c", Lines: many(3)}}, {{Path: "a", Lines: many(9)}, {Path: "b", Lines: many(9)}, {Path: "c", Lines: many(9)}}, {{Path: "c", Lines: many(9)}},
	} {
		x, e := tree.From(files)
		if e != api.OK {
			t.Fatal(e)
		}
		l = append(l, x)
	}
	return l
}

// grown is a row of operations that can be applied to a tree, and what they make of it.
func grown(r *rand.Rand, all []api.Op, x tree.Tree, most int) ([]api.Op, tree.Tree) {
	var l []api.Op
	want := r.Intn(most + 1)
	for range 60 {
		if len(l) == want {
			break
		}
		o := all[r.Intn(len(all))]
		if y, e := x.Apply(o); e == api.OK {
			l, x = append(l, o), y
		}
	}
	return l, x
}

// bare are operations none of which is policy.
func bare(l []api.Op) []api.Op { return slices.DeleteFunc(slices.Clone(l), op.Policy) }

// P34.1, P34.2. A row's inverse undoes it; two rows, each carried over the other, come to the same; what is carried over a row, with it taken out again, is as it was.
func TestOverComesToTheSame(t *testing.T) {
	r := rand.New(rand.NewSource(342))
	all := bare(changes())
	seen, moved := 0, 0
	for _, x := range trees(t) {
		for range 6000 {
			a, y := grown(r, all, x, 4)
			b, z := grown(r, all, x, 4)
			back, e := carry.Inverse(a)
			if was, _, f := y.All(back); e != api.OK || f != api.OK || !tree.Same(was, x) {
				t.Fatalf("%s on %s: %s makes %s, %d, %d", brief(a), brief(x.Files()), brief(back), brief(was.Files()), e, f)
			}
			over, e := carry.Over(b, a)
			other, f := carry.Over(a, b)
			if e != api.OK || f != api.OK || len(a) == 0 || len(b) == 0 {
				continue
			}
			y, _, e = y.All(over)
			z, _, f = z.All(other)
			if e != api.OK || f != api.OK {
				continue
			}
			if !tree.Same(y, z) {
				t.Fatalf("%s and %s on %s: %s, not %s", brief(a), brief(b), brief(x.Files()), brief(y.Files()), brief(z.Files()))
			}
			if l, e := carry.Without(a, over); !same(l, b) || e != api.OK {
				t.Fatalf("%s, then %s: %s, %d, not %s", brief(a), brief(over), brief(l), e, brief(b))
			}
			seen++
			if !same(over, b) {
				moved++
			}
		}
	}
	if seen < 1000 || moved < 100 {
		t.Error(seen, moved)
	}
}

// P34.3. Rows without one come to what all of them come to, with that one undone.
func TestDropComesToTheSame(t *testing.T) {
	r := rand.New(rand.NewSource(343))
	all := changes()
	seen, moved, unequal := 0, 0, 0
	for _, x := range trees(t) {
		for range 6000 {
			rows := make([][]api.Op, 1+r.Intn(4))
			y := x
			for i := range rows {
				rows[i], y = grown(r, all, y, 2)
			}
			i := r.Intn(len(rows))
			less, e := carry.Drop(rows, i)
			back, f := carry.Undo(rows, i)
			dropped(t, rows, i)
			if e != api.OK || f != api.OK || len(back) == 0 {
				continue
			}
			u, _, e := x.All(slices.Concat(less...))
			v, _, f := y.All(back)
			if e != api.OK || f != api.OK {
				continue
			}
			if !tree.Same(u, v) {
				t.Fatalf("%s on %s: without %d %s, undone %s", brief(rows), brief(x.Files()), i, brief(u.Files()), brief(v.Files()))
			}
			seen++
			if !slices.EqualFunc(less[i:], rows[i+1:], same) {
				moved++
			}
			if !tree.Same(u, y) {
				unequal++
			}
		}
	}
	if seen < 1000 || moved < 50 || unequal < 1000 {
		t.Error(seen, moved, unequal)
	}
}

// spoil changes operations' rows, and the row of them, their spare room too.
func spoil(l []api.Op) {
	l = l[:cap(l)]
	for i, o := range l {
		for _, row := range [][]string{o.Old[:cap(o.Old)], o.New[:cap(o.New)]} {
			for k := range row {
				row[k] = "spoilt"
			}
		}
		l[i] = api.Op{Kind: 99, Path: "spoilt"}
	}
}

// P34.1. What is handed in is neither changed nor kept, its spare room neither; what is told is new memory, no two rows of which share any.
func TestMemory(t *testing.T) {
	room := strings.Split("xyzuvw", "")
	fresh := func(at int) []api.Op {
		return append(make([]api.Op, 0, 5), api.Op{Kind: 3, Path: "a", At: at, Old: room[:2], New: room[:3]}, api.Op{Kind: 3, Path: "b", At: at, New: room[1:3]}, api.Op{Kind: 2, Path: "c/" + strconv.Itoa(at), Old: room[:2]}, create("spare"))[:3]
	}
	a, b, c := fresh(40), fresh(3), fresh(90)
	kept := func() bool {
		return same(a[:4], append(fresh(40), create("spare"))) && same(b[:4], append(fresh(3), create("spare"))) && same(c[:4], append(fresh(90), create("spare"))) && strings.Join(room, "") == "xyzuvw"
	}
	rows := append(make([][]api.Op, 0, 5), b, b[:0], a, c)
	for i, call := range []func() ([]api.Op, api.Errno){
		func() ([]api.Op, api.Errno) { return carry.Inverse(a) }, func() ([]api.Op, api.Errno) { return carry.Over(a, b) }, func() ([]api.Op, api.Errno) { return carry.Over(a, nil) }, func() ([]api.Op, api.Errno) { return carry.Without(b, a) }, func() ([]api.Op, api.Errno) { return carry.Without(nil, a) }, func() ([]api.Op, api.Errno) { return carry.Undo(rows, 0) }, func() ([]api.Op, api.Errno) { return carry.Undo(rows, 3) },
	} {
		l, e := call()
		again, _ := call()
		if e != api.OK || !same(l, again) || len(l) < 3 {
			t.Fatalf("%d: %s, %d", i, brief(l), e)
		}
		for k := range l {
			spoil(l[k : k+1 : k+1])
			if !same(l[k+1:], again[k+1:]) {
				t.Errorf("%d: the row of %d is another one's, too", i, k)
			}
		}
		spoil(l)
		if once, _ := call(); !same(once, again) || !kept() {
			t.Errorf("%d: %s", i, brief(once))
		}
	}
	for i := range rows {
		l, e := carry.Drop(rows, i)
		again, _ := carry.Drop(rows, i)
		if e != api.OK || len(l) != 3 {
			t.Fatalf("%d: %s, %d", i, brief(l), e)
		}
		for k := range l {
			spoil(l[k])
			if !slices.EqualFunc(l[k+1:], again[k+1:], same) {
				t.Errorf("%d: the row %d is another one's, too", i, k)
			}
		}
		clear(l[:cap(l)])
		if !kept() || len(rows[1]) != 0 || rows[:5][4] != nil || !same(rows[3], c) {
			t.Errorf("%d: %s", i, brief(rows))
		}
	}
}
