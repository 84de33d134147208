package chart

import (
	"math"
	"math/bits"
	"slices"
)

// lanes are those that nodes hold, by the nodes' rows.
type lanes struct {
	held map[int]int
	// A bit for each lane tells whether it is held: the least one that none holds is found by 64 at once, as there may be very many.
	taken []uint64
}

// take is the lane that the node of a row, with these deps, takes and holds.
func (l *lanes) take(row int, deps []int) int {
	lane, ok := l.from(deps)
	if !ok {
		lane = l.least()
		l.taken[lane/64] |= 1 << (lane % 64)
	}
	l.held[row] = lane
	return lane
}

// from is the lane of the first one of deps, which holds none any more, if it did.
func (l *lanes) from(deps []int) (int, bool) {
	if len(deps) == 0 {
		return 0, false
	}
	lane, ok := l.held[deps[0]]
	delete(l.held, deps[0])
	return lane, ok
}

// least is the least lane that none holds.
func (l *lanes) least() int {
	at := slices.IndexFunc(l.taken, func(w uint64) bool { return w != math.MaxUint64 })
	if at < 0 {
		at, l.taken = len(l.taken), append(l.taken, 0)
	}
	return 64*at + bits.TrailingZeros64(^l.taken[at])
}

// drop lets the lane of a row's node go, if it holds one.
func (l *lanes) drop(row int) {
	if lane, ok := l.held[row]; ok {
		delete(l.held, row)
		l.taken[lane/64] &^= 1 << (lane % 64)
	}
}
