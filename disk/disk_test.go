package disk_test

import (
	"math"
	"math/rand"
	"slices"
	"strings"
	"testing"

	"quitclaim/api"
	"quitclaim/disk"
)

// piece is a write that waits.
type piece struct {
	at int
	s  string
}

// model is a disk by the words.
type model struct {
	synced string
	waits  []piece
	off    bool

	fuse  bool
	left  int
	mask  uint64
	count int
}

// laid is what bytes are, a piece laid over them.
func laid(bytes string, p piece) string {
	if p.s == "" {
		return bytes
	}
	n := max(len(bytes), p.at+len(p.s))
	out := make([]byte, n)
	for i := range n {
		switch {
		case i >= p.at && i < p.at+len(p.s):
			out[i] = p.s[i-p.at]
		case i < len(bytes):
			out[i] = bytes[i]
		}
	}
	return string(out)
}

// seen is what is seen of a model.
func (m *model) seen() string {
	s := m.synced
	for _, p := range m.waits {
		s = laid(s, p)
	}
	return s
}

// leftOver is what a crash keeps.
func (m *model) leftOver(mask uint64, count int) string {
	s, first := m.synced, true
	for i, p := range m.waits {
		if mask&(1<<(i%64)) == 0 {
			if !first || count < 0 {
				p.s = ""
			} else if count < len(p.s) {
				p.s = p.s[:count]
			}
			first = false
		}
		s = laid(s, p)
	}
	return s
}

// crash is the crash.
func (m *model) crash(mask uint64, count int) {
	if !m.off {
		*m = model{synced: m.leftOver(mask, count), off: true}
	}
}

// arm lays the fuse.
func (m *model) arm(n int, mask uint64, count int) {
	if !m.off {
		m.fuse, m.left, m.mask, m.count = n >= 0, n, mask, count
	}
}

// last tells whether a step that would tell OK is the one in which the crash comes.
func (m *model) last() bool {
	m.left--
	return m.fuse && m.left < 0
}

// write is a Write.
func (m *model) write(at int, s string) api.Errno {
	switch {
	case m.off:
		return api.ErrDown
	case at < 0 || at > len(m.seen()):
		return api.ErrRange
	case at+len(s) > 1<<22:
		return api.ErrFull
	case s == "":
		return api.OK
	}
	m.waits = append(m.waits, piece{at, s})
	if m.last() {
		m.crash(m.mask, m.count)
		return api.ErrDown
	}
	return api.OK
}

// cut is a Cut.
func (m *model) cut(n int) api.Errno {
	switch {
	case m.off:
		return api.ErrDown
	case n < 0 || n > len(m.seen()):
		return api.ErrRange
	case m.last():
		m.crash(m.mask, m.count)
		return api.ErrDown
	}
	m.synced, m.waits = m.seen()[:n], nil
	return api.OK
}

// sync is a Sync.
func (m *model) sync() api.Errno {
	switch {
	case m.off:
		return api.ErrDown
	case m.last():
		m.crash(m.mask, m.count)
		return api.ErrDown
	}
	m.synced, m.waits = m.seen(), nil
	return api.OK
}

// read is a Read.
func (m *model) read(at, n int) (string, api.Errno) {
	s := m.seen()
	switch {
	case m.off:
		return "", api.ErrDown
	case at < 0 || n < 0 || at > len(s) || n > len(s)-at:
		return "", api.ErrRange
	}
	return s[at : at+n], api.OK
}

// agree holds all that is told of a disk against its model.
func agree(t *testing.T, d *disk.Disk, m *model) {
	t.Helper()
	s := m.seen()
	if d.All() != s || d.Len() != len(s) || d.Waiting() != len(m.waits) || d.Kept() != m.leftOver(0, 0) || d.Down() != m.off {
		t.Fatalf("%q, %d, %d, %q, %v, not %q, %d, %q, %v", d.All(), d.Len(), d.Waiting(), d.Kept(), d.Down(), s, len(m.waits), m.leftOver(0, 0), m.off)
	}
}

// told holds what a step told against its model.
func told(t *testing.T, got, want api.Errno) {
	t.Helper()
	if got != want {
		t.Fatalf("%d, not %d", got, want)
	}
}

// counts are numbers about which a crash may turn.
func counts() []int { return []int{0, 1, 2, 3, -1, 4, 1 << 40, math.MinInt, math.MaxInt} }

// places are those from one below 0 to one above a length, and far ones.
func places(n int) []int {
	l := []int{math.MinInt, -2, math.MaxInt, math.MaxInt - 1, 1 << 40, n + 2}
	for i := -1; i <= n+1; i++ {
		l = append(l, i)
	}
	return l
}

// P24.1. What is read, at all places and of all lengths.
func TestRead(t *testing.T) {
	for _, s := range []string{"", "a", "abcde", "\x00\xff\x00"} {
		d, m := disk.New(), &model{}
		for range 2 {
			told(t, d.Write(0, s), m.write(0, s))
			for _, at := range places(len(s)) {
				for _, n := range places(len(s)) {
					got, e := d.Read(at, n)
					if want, is := m.read(at, n); got != want || e != is {
						t.Errorf("%q, %d, %d: %q, %d, not %q, %d", s, at, n, got, e, want, is)
					}
				}
			}
			agree(t, d, m)
			told(t, d.Sync(), m.sync())
		}
		d.Crash(0, 0)
		for _, at := range places(len(s)) {
			for _, n := range []int{-1, 0, 1, len(s)} {
				if got, e := d.Read(at, n); got != "" || e != api.ErrDown {
					t.Errorf("%d, %d: %q, %d", at, n, got, e)
				}
			}
		}
	}
}

// P24.1. Writes over what there is, and behind it; places that aren't there, and texts that have no room.
func TestWrite(t *testing.T) {
	for _, s := range []string{"", "x", "xyz", "\x00\x01", strings.Repeat("q", 9)} {
		for _, at := range places(5) {
			d, m := disk.New(), &model{}
			told(t, d.Write(0, "abcde"), api.OK)
			m.write(0, "abcde")
			told(t, d.Sync(), m.sync())
			told(t, d.Write(at, s), m.write(at, s))
			agree(t, d, m)
			told(t, d.Write(2, "Q"), m.write(2, "Q"))
			agree(t, d, m)
			d.Crash(1, 0)
			m.crash(1, 0)
			told(t, d.Write(at, s), api.ErrDown)
			agree(t, d, m)
		}
	}
}

// P24.1. A disk has MaxBytes at most; what is refused changes nothing, and a place that isn't there comes first.
func TestFull(t *testing.T) {
	const most = 1 << 22
	all := strings.Repeat("0123456789abcdef", most/16)
	d := disk.New()
	told(t, d.Write(0, all+"x"), api.ErrFull)
	if d.Len() != 0 || d.Waiting() != 0 {
		t.Error(d.Len(), d.Waiting())
	}
	told(t, d.Write(0, all[1:]), api.OK)
	told(t, d.Write(most-1, "xy"), api.ErrFull)
	told(t, d.Write(most, ""), api.ErrRange)
	told(t, d.Write(most, "x"), api.ErrRange)
	told(t, d.Write(-1, all+"x"), api.ErrRange)
	told(t, d.Write(most-1, "x"), api.OK)
	told(t, d.Write(most, ""), api.OK)
	told(t, d.Write(most, "y"), api.ErrFull)
	told(t, d.Write(1, all), api.ErrFull)
	told(t, d.Write(most+1, all), api.ErrRange)
	if d.Len() != most || d.All() != all[1:]+"x" || d.Waiting() != 2 || d.Kept() != "" {
		t.Error(d.Len(), d.Waiting())
	}
	told(t, d.Write(0, all), api.OK)
	told(t, d.Sync(), api.OK)
	if d.All() != all || d.Kept() != all {
		t.Error(d.Len())
	}
	d.Arm(0, 0, 0)
	told(t, d.Write(most, "y"), api.ErrFull) // it wouldn't tell OK, and counts nothing
	d.Crash(0, 0)
	told(t, d.Write(most, "y"), api.ErrDown)
	d.Start()
	told(t, d.Write(most, "y"), api.ErrFull)
	if s, e := d.Read(most-3, 3); s != all[most-3:] || e != api.OK || d.Len() != most {
		t.Error(s, e)
	}
}

// P24.1. A cut leaves the first bytes, for sure; what was cut off isn't seen again.
func TestCut(t *testing.T) {
	for _, n := range places(7) {
		d, m := disk.New(), &model{}
		told(t, d.Write(0, "abc"), m.write(0, "abc"))
		told(t, d.Sync(), m.sync())
		told(t, d.Write(3, "defg"), m.write(3, "defg"))
		told(t, d.Write(1, "X"), m.write(1, "X"))
		told(t, d.Cut(n), m.cut(n))
		agree(t, d, m)
		// Of these two the second one alone is kept: bytes lack ahead of it.
		end := d.Len()
		told(t, d.Write(end, "mno"), m.write(end, "mno"))
		told(t, d.Write(end+3, "p"), m.write(end+3, "p"))
		d.Crash(2, 1)
		m.crash(2, 1)
		agree(t, d, m)
		told(t, d.Cut(0), api.ErrDown)
		told(t, d.Cut(-1), api.ErrDown)
		agree(t, d, m)
	}
}

// P24.1. Where bytes lack between, they are 0, also where others stood there once.
func TestGaps(t *testing.T) {
	for _, cut := range []bool{false, true} {
		d := disk.New()
		told(t, d.Write(0, "abcdefghij"), api.OK)
		if cut {
			told(t, d.Cut(2), api.OK)
		} else {
			d.Crash(0, 2)
			d.Start()
		}
		told(t, d.Write(2, "123"), api.OK)
		told(t, d.Write(5, "45"), api.OK)
		told(t, d.Write(7, "6"), api.OK)
		d.Crash(4, 1)
		if d.All() != "ab1\x00\x00\x00\x006" || d.Kept() != d.All() || d.Len() != 8 {
			t.Errorf("%q", d.All())
		}
	}
}

// crashed are the bytes that are left of some writes, behind some that were synced.
func crashed(t *testing.T, synced, waits []piece, mask uint64, count int) {
	t.Helper()
	d, m := disk.New(), &model{}
	for _, p := range synced {
		told(t, d.Write(p.at, p.s), m.write(p.at, p.s))
	}
	told(t, d.Sync(), m.sync())
	for _, p := range waits {
		told(t, d.Write(p.at, p.s), m.write(p.at, p.s))
	}
	agree(t, d, m)
	d.Crash(mask, count)
	m.crash(mask, count)
	agree(t, d, m)
	d.Crash(^mask, count+1) // without power nothing happens
	agree(t, d, m)
	d.Start()
	m.off = false
	agree(t, d, m)
}

// P24.1, P24.2. Crashes by all masks and counts, of writes over one another, behind one another, and without bytes.
func TestCrash(t *testing.T) {
	for _, waits := range [][]piece{
		nil, {{0, ""}}, {{0, "abc"}}, {{4, "abc"}}, {{4, "ab"}, {6, "cd"}, {8, "ef"}}, {{0, "abcdef"}, {1, "XY"}, {3, "1234"}}, {{2, "abc"}, {0, ""}, {2, "d"}, {5, "efg"}}, {{0, "q"}, {0, "r"}, {0, "s"}, {0, "tuvwxyz"}},
	} {
		for _, synced := range [][]piece{{{0, "0123"}}, {{0, "01"}, {1, "QRST"}}} {
			for mask := range uint64(32) {
				for _, count := range counts() {
					crashed(t, synced, waits, mask, count)
					crashed(t, synced, waits, ^mask, count)
				}
			}
		}
	}
	d := disk.New()
	d.Write(0, "ab")
	d.Sync()
	d.Write(2, "cd")
	d.Crash(0, 1)
	if d.All() != "abc" || !d.Down() || d.Waiting() != 0 {
		t.Error(d.All())
	}
}

// P24.1. A mask's bits come again behind 64 writes.
func TestManyWrites(t *testing.T) {
	var waits []piece
	for i := range 150 {
		waits = append(waits, piece{i * 2, string([]byte{byte(i), byte(i + 1)})})
	}
	r := rand.New(rand.NewSource(241))
	for _, mask := range []uint64{0, math.MaxUint64, 1, 1 << 63, math.MaxUint64 >> 1, math.MaxUint64 - 1, 1 << 31, 1 << 32, math.MaxUint64 &^ (1 << 40), r.Uint64(), r.Uint64()} {
		for _, count := range counts() {
			crashed(t, nil, waits, mask, count)
			crashed(t, nil, waits[:64], mask, count)
			crashed(t, nil, waits[:65], mask, count)
		}
	}
}

// tooLong is a text that no disk has room for.
var tooLong = strings.Repeat("f", 1<<22+1)

// step does one of the steps that a fuse counts, or one that it doesn't.
func step(t *testing.T, d *disk.Disk, m *model, kind int) {
	t.Helper()
	n := len(m.seen())
	switch kind {
	case 0:
		told(t, d.Write(n, "xyz"), m.write(n, "xyz"))
	case 1:
		told(t, d.Sync(), m.sync())
	case 2:
		told(t, d.Cut(n/2), m.cut(n/2))
	case 3:
		told(t, d.Cut(n), m.cut(n))
	case 4: // the others aren't counted
		told(t, d.Write(n, ""), m.write(n, ""))
	case 5:
		told(t, d.Write(n+1, "a"), m.write(n+1, "a"))
	case 6:
		told(t, d.Cut(n+1), m.cut(n+1))
	case 7:
		d.Read(0, 1)
		d.All()
		d.Kept()
		d.Copy()
	case 8:
		told(t, d.Write(0, tooLong), m.write(0, tooLong))
	case 9:
		d.Start()
		m.off = false
	}
	agree(t, d, m)
}

// P24.1. Fuses of all small numbers, by all short rows of steps, each by several crashes; none is left behind the crash.
func TestFuse(t *testing.T) {
	for kinds := range 1000 {
		for n := -1; n < 4; n++ {
			for _, mask := range []uint64{0, 1, 2, 5, math.MaxUint64} {
				d, m := disk.New(), &model{}
				for _, p := range []piece{{0, "abcdef"}, {2, "gh"}} {
					told(t, d.Write(p.at, p.s), m.write(p.at, p.s))
				}
				d.Arm(n, mask, 2)
				m.arm(n, mask, 2)
				agree(t, d, m)
				for _, kind := range []int{kinds % 10, kinds / 10 % 10, kinds / 100} {
					step(t, d, m, kind)
				}
				step(t, d, m, 0)
				if n >= 3 { // a count above the steps that were done: the fuse still waits
					step(t, d, m, 1)
				}
				step(t, d, m, 9)
				for _, kind := range []int{0, 1, 0, 3, 2} {
					step(t, d, m, kind)
				}
			}
		}
	}
}

// P24.1. The last step is done and waits, if it is a Write; a Cut or a Sync isn't.
func TestLastStep(t *testing.T) {
	d := disk.New()
	d.Arm(1, 1, 2)
	told(t, d.Write(0, "abc"), api.OK)
	told(t, d.Write(3, "def"), api.ErrDown)
	if d.All() != "abcde" || !d.Down() || d.Waiting() != 0 {
		t.Errorf("%q", d.All())
	}
	d.Start()
	told(t, d.Write(5, "xyz"), api.OK)
	d.Arm(0, math.MaxUint64, 0)
	told(t, d.Cut(0), api.ErrDown)
	if d.All() != "abcdexyz" {
		t.Errorf("%q", d.All())
	}
	d.Start()
	told(t, d.Write(8, "q"), api.OK)
	d.Arm(0, 0, 0)
	told(t, d.Sync(), api.ErrDown)
	if d.All() != "abcdexyz" {
		t.Errorf("%q", d.All())
	}
	d.Start()
	told(t, d.Sync(), api.OK) // there is no fuse any more
	told(t, d.Cut(3), api.OK)
	told(t, d.Write(3, "r"), api.OK)
	if d.Down() || d.All() != "abcr" {
		t.Errorf("%q", d.All())
	}
}

// P24.1. A fuse stands in the place of the one ahead of it; one below 0 is none; there is none without power, nor behind a crash; Start leaves it.
func TestArm(t *testing.T) {
	d := disk.New()
	d.Arm(0, 0, 0)
	d.Arm(1, 0, 0)
	told(t, d.Sync(), api.OK)
	d.Arm(-1, 0, 0)
	told(t, d.Sync(), api.OK)
	d.Arm(0, 0, 0)
	d.Arm(math.MinInt, 0, 0)
	told(t, d.Sync(), api.OK)
	d.Arm(math.MaxInt, 0, 0)
	told(t, d.Sync(), api.OK)
	d.Arm(0, 0, 0)
	d.Start()
	told(t, d.Sync(), api.ErrDown)
	d.Arm(0, 0, 0)
	d.Start()
	told(t, d.Sync(), api.OK)
	d.Arm(0, 0, 0)
	d.Crash(0, 0)
	d.Start()
	told(t, d.Sync(), api.OK)
	d.Arm(2, 1, 1)
	told(t, d.Sync(), api.OK)
	d.Arm(0, 2, 2) // its mask and count, and not those of the one ahead
	told(t, d.Write(0, "abc"), api.ErrDown)
	if d.All() != "ab" {
		t.Errorf("%q", d.All())
	}
}

// P24.1, P24.2. Any calls behind any others, held against the words; a copy goes on by itself, and has no fuse.
func TestAnyCalls(t *testing.T) {
	r := rand.New(rand.NewSource(24))
	for range 3000 {
		d, m := disk.New(), &model{}
		for range 40 {
			n := len(m.seen())
			switch v := r.Intn(16); v {
			case 0, 1, 2, 3, 4, 5:
				at, s := r.Intn(n+1), strings.Repeat(string(rune('a'+r.Intn(26))), r.Intn(4))
				told(t, d.Write(at, s), m.write(at, s))
			case 6:
				told(t, d.Write(n+1, "a"), m.write(n+1, "a"))
			case 7:
				at := r.Intn(n+3) - 1
				told(t, d.Cut(at), m.cut(at))
			case 8, 9:
				told(t, d.Sync(), m.sync())
			case 10:
				mask, count := r.Uint64(), r.Intn(5)-1
				d.Crash(mask, count)
				m.crash(mask, count)
			case 11:
				n, mask, count := r.Intn(6)-1, r.Uint64(), r.Intn(5)-1
				d.Arm(n, mask, count)
				m.arm(n, mask, count)
			case 12, 13:
				d.Start()
				m.off = false
			case 14:
				at, size := r.Intn(n+3)-1, r.Intn(n+3)-1
				got, e := d.Read(at, size)
				if want, is := m.read(at, size); got != want || e != is {
					t.Fatalf("%q, %d, not %q, %d", got, e, want, is)
				}
			case 15:
				copied(t, r, d, m)
			}
			agree(t, d, m)
		}
	}
}

// copied looks at a copy of a disk, which is as the disk but for the fuse, and changes each of both by itself.
func copied(t *testing.T, r *rand.Rand, d *disk.Disk, m *model) {
	t.Helper()
	c, o := d.Copy(), *m
	o.fuse, o.waits = false, slices.Clone(m.waits)
	agree(t, c, &o)
	for i := range 6 {
		n := len(o.seen())
		switch r.Intn(3) {
		case 0:
			told(t, c.Write(n/2, "1234567"[:i]), o.write(n/2, "1234567"[:i]))
		case 1:
			told(t, c.Sync(), o.sync())
		case 2:
			told(t, c.Cut(n/2), o.cut(n/2))
		}
		agree(t, c, &o)
		agree(t, d, m)
	}
	mask, count := r.Uint64(), r.Intn(5)-1
	c.Crash(mask, count)
	o.crash(mask, count)
	agree(t, c, &o)
	agree(t, d, m)
}

// P24.1. What is done to a disk isn't seen by a copy that was made ahead.
func TestCopy(t *testing.T) {
	d := disk.New()
	d.Write(0, "abc")
	d.Sync()
	d.Write(3, "def")
	d.Write(0, "X")
	d.Arm(0, 0, 0)
	c := d.Copy()
	told(t, d.Write(1, "Q"), api.ErrDown)
	if c.Down() || c.All() != "Xbcdef" || c.Kept() != "abc" || c.Waiting() != 2 || d.All() != "abc" {
		t.Errorf("%q, %q", c.All(), d.All())
	}
	off := d.Copy()
	d.Start()
	if !off.Down() || off.Sync() != api.ErrDown || d.Down() {
		t.Error("the copy of a disk without power has none")
	}
	told(t, c.Write(6, "g"), api.OK)
	told(t, c.Sync(), api.OK)
	told(t, c.Cut(7), api.OK)
	c.Crash(0, 0)
	if c.All() != "Xbcdefg" {
		t.Errorf("%q", c.All())
	}
}

// P24.1. What waits of a disk and of its copy, written behind the copying, is each one's own.
func TestWaitsOfCopies(t *testing.T) {
	for n := range 10 {
		d := disk.New()
		for i := range n {
			told(t, d.Write(i, "a"), api.OK)
		}
		c := d.Copy()
		told(t, c.Write(n, "xx"), api.OK)
		told(t, d.Write(n, "yyy"), api.OK)
		e := d.Copy()
		told(t, e.Write(n, "z"), api.OK)
		for _, x := range []struct {
			d    *disk.Disk
			want string
		}{{c, "xx"}, {d, "yyy"}, {e, "zyy"}} {
			x.d.Crash(math.MaxUint64, 0)
			if got := x.d.All(); got != strings.Repeat("a", n)+x.want {
				t.Errorf("%d: %q, not %q", n, got, x.want)
			}
		}
	}
}

// P24.1. A new disk has power, and no bytes.
func TestNew(t *testing.T) {
	d := disk.New()
	agree(t, d, &model{})
	told(t, d.Cut(0), api.OK)
	told(t, d.Cut(1), api.ErrRange)
	told(t, d.Sync(), api.OK)
	told(t, d.Write(0, ""), api.OK)
	if s, e := d.Read(0, 0); s != "" || e != api.OK {
		t.Error(s, e)
	}
	agree(t, d, &model{})
	d.Crash(math.MaxUint64, 9)
	agree(t, d, &model{off: true})
}
