package merge

import (
	"slices"

	"quitclaim/diff"
)

// What stands ahead of a conflict's two sides, between them, and behind them.
const (
	ahead   = "<<<<<<<"
	between = "======="
	behind  = ">>>>>>>"
)

// stretch is old lines, from a place to another one, and what stands for them.
type stretch struct {
	from, to int
	new      []string
}

// merged is right lines that two sides changed, however many that makes, and how many conflicts they have.
func merged(old, a, b []string) ([]string, int) {
	x, y := stretches(old, a), stretches(old, b)
	var groups []stretch
	conflicts := 0
	for len(x)+len(y) > 0 {
		var g stretch
		var m, n int
		g.from, g.to, m, n = group(x, y)
		mine, yours := made(old, g.from, g.to, x[:m]), made(old, g.from, g.to, y[:n])
		switch {
		case n == 0 || m > 0 && slices.Equal(mine, yours):
			g.new = mine
		case m == 0:
			g.new = yours
		default:
			g.new = slices.Concat([]string{ahead}, mine, []string{between}, yours, []string{behind})
			conflicts++
		}
		groups = append(groups, g)
		x, y = x[m:], y[n:]
	}
	return made(old, 0, len(old), groups), conflicts
}

// stretches are those of old lines that stand otherwise in new ones.
func stretches(old, new []string) []stretch {
	hunks, _ := diff.Of(old, new)
	l := make([]stretch, 0, len(hunks))
	added := 0
	for _, h := range hunks {
		// A hunk's place counts what those ahead of it did; a stretch's doesn't.
		from := h.At - added
		l = append(l, stretch{from, from + len(h.Old), h.New})
		added += len(h.New) - len(h.Old)
	}
	return l
}

// group is from where to where the first group of two sides' stretches goes, and how many stretches of each side it has; one there is.
func group(x, y []stretch) (from, to, m, n int) {
	from = begin(x, y)
	to = from
	// What begins at the group's end still touches it.
grow:
	switch {
	case m < len(x) && x[m].from <= to:
		to = max(to, x[m].to)
		m++
		goto grow
	case n < len(y) && y[n].from <= to:
		to = max(to, y[n].to)
		n++
		goto grow
	}
	return from, to, m, n
}

// begin is where the first stretch of two sides begins; one there is.
func begin(x, y []stretch) int {
	switch {
	case len(x) == 0:
		return y[0].from
	case len(y) == 0:
		return x[0].from
	}
	return min(x[0].from, y[0].from)
}

// made is what stretches make of the old lines from a place to another one.
func made(old []string, from, to int, l []stretch) []string {
	var lines []string
	for _, s := range l {
		lines = append(lines, old[from:s.from]...)
		lines = append(lines, s.new...)
		from = s.to
	}
	return append(lines, old[from:to]...)
}
