package journal_test

import (
	"crypto/sha256"
	"encoding/binary"
	"math"
	"math/rand"
	"slices"
	"strings"
	"testing"

	"quitclaim/api"
	"quitclaim/disk"
	"quitclaim/journal"
)

// most is how many bytes a payload has at most.
const most = 1 << 22

// tagged is a tagged sum, by the words.
func tagged(name string, parts ...string) api.Id {
	b := append([]byte{byte(len(name))}, name...)
	for _, p := range parts {
		b = binary.BigEndian.AppendUint64(b, uint64(len(p)))
		b = append(b, p...)
	}
	return sha256.Sum256(b)
}

// begins is the chain at first, by the words.
func begins() api.Id { return tagged("journal") }

// behind is the chain behind a frame, by the words.
func behind(chain api.Id, f journal.Frame) api.Id {
	return tagged("frame", string(chain[:]), string([]byte{byte(f.Kind)}), f.Payload)
}

// number is a number, written.
func number(v int) string { return string(binary.AppendUvarint(nil, uint64(v))) }

// bytesOf are a frame's bytes, by the words, whatever its kind and payload are.
func bytesOf(chain api.Id, f journal.Frame) string {
	sum := behind(chain, f)
	return "\x4a" + string([]byte{byte(f.Kind)}) + number(len(f.Payload)) + f.Payload + string(sum[:8])
}

// rowOf are the bytes of frames, the places where each one ends, and the chains there; those at first, too.
func rowOf(l []journal.Frame) (s string, ends []int, chains []api.Id) {
	ends, chains = []int{0}, []api.Id{begins()}
	for i, f := range l {
		s += bytesOf(chains[i], f)
		ends, chains = append(ends, len(s)), append(chains, behind(chains[i], f))
	}
	return s, ends, chains
}

// frame is one of a kind, with a payload.
func frame(kind int, payload string) journal.Frame {
	return journal.Frame{Kind: kind, Payload: payload}
}

// good are frames that are right, of several kinds and lengths.
func good() []journal.Frame {
	return []journal.Frame{frame(1, ""), frame(255, "x"), frame(2, "\x00\xff"), frame(74, "J\x01\x00"), frame(128, strings.Repeat("p", 127)), frame(127, strings.Repeat("q", 128)), frame(3, strings.Repeat("r", 16384)), frame(1, "")}
}

// chains are several, that at first among them.
func chains() []api.Id {
	return []api.Id{begins(), {}, {0: 1}, {31: 1}, {7: 1, 8: 255}, behind(begins(), frame(1, ""))}
}

// P25.1. The chain at first, and behind frames of all kinds.
func TestChain(t *testing.T) {
	if a := journal.Begin(); a != begins() || a != journal.Begin() {
		t.Errorf("%x", a)
	}
	known := map[api.Id]bool{begins(): true}
	for _, chain := range chains() {
		for kind := 1; kind < 256; kind++ {
			for _, payload := range []string{"", "\x00", "a", "abc"} {
				f := frame(kind, payload)
				a, e := journal.Next(chain, f)
				if a != behind(chain, f) || e != api.OK {
					t.Fatalf("%x, %v: %x, %d", chain, f, a, e)
				}
				if known[a] && chain != begins() {
					t.Fatalf("%x, %v: %x again", chain, f, a)
				}
				known[a] = true
			}
		}
	}
}

// P25.1. A frame's bytes, of all kinds.
func TestBytes(t *testing.T) {
	for _, chain := range chains() {
		for _, f := range good() {
			for kind := 1; kind < 256; kind++ {
				f.Kind = kind
				if s, e := journal.Bytes(chain, f); s != bytesOf(chain, f) || e != api.OK {
					t.Fatalf("%x, %d, %.20q: %.99q, %d", chain, kind, f.Payload, s, e)
				}
			}
		}
	}
	s, e := journal.Bytes(journal.Begin(), frame(2, "hi"))
	if e != api.OK || len(s) != 13 || s[:5] != "\x4a\x02\x02hi" {
		t.Errorf("%q, %d", s, e)
	}
}

// wrong is a frame that isn't right, and why.
type wrong struct {
	f journal.Frame
	e api.Errno
}

// wrongs are such frames: of two errors that of the kind comes first.
func wrongs() []wrong {
	long, longer := strings.Repeat("l", most+1), strings.Repeat("m", 2*most)
	l := []wrong{{frame(1, long), api.ErrLong}, {frame(255, longer), api.ErrLong}, {frame(7, long), api.ErrLong}}
	for _, kind := range []int{0, -1, 256, 257, 512, -255, -256, 1 << 32, 1<<32 + 1, math.MaxInt, math.MinInt, math.MinInt + 1} {
		l = append(l, wrong{frame(kind, ""), api.ErrArg}, wrong{frame(kind, "x"), api.ErrArg}, wrong{frame(kind, long), api.ErrArg})
	}
	return l
}

// P25.1. What isn't right, by each call that frames are handed to.
func TestWrongFrames(t *testing.T) {
	for _, x := range wrongs() {
		for _, chain := range chains() {
			if a, e := journal.Next(chain, x.f); a != (api.Id{}) || e != x.e {
				t.Errorf("%d, %d bytes: %x, %d", x.f.Kind, len(x.f.Payload), a, e)
			}
			if s, e := journal.Bytes(chain, x.f); s != "" || e != x.e {
				t.Errorf("%d, %d bytes: %.99q, %d", x.f.Kind, len(x.f.Payload), s, e)
			}
		}
		for _, y := range []wrong{{frame(0, ""), api.ErrArg}, {frame(1, strings.Repeat("n", most+1)), api.ErrLong}} {
			for n := range len(good()) + 1 {
				l := slices.Concat(good()[:n], []journal.Frame{x.f}, good()[n:], []journal.Frame{y.f})
				if s, e := journal.All(l); s != "" || e != x.e {
					t.Errorf("%d, %d bytes at %d: %.99q, %d", x.f.Kind, len(x.f.Payload), n, s, e)
				}
			}
		}
	}
}

// P25.1, P25.2. A payload may have MaxBytes bytes, and not one more, when it is read neither.
func TestGreatest(t *testing.T) {
	f := frame(9, strings.Repeat("0123456789abcdef", most/16))
	s, e := journal.Bytes(begins(), f)
	if e != api.OK || s != bytesOf(begins(), f) {
		t.Fatal(len(s), e)
	}
	scans(t, s+"x", []journal.Frame{f}, len(s), behind(begins(), f))
	scans(t, s[:len(s)-1], nil, 0, begins())
	f.Payload += "x"
	scans(t, bytesOf(begins(), f), nil, 0, begins())
}

// scans looks what the frames of bytes are.
func scans(t *testing.T, s string, want []journal.Frame, at int, last api.Id) {
	t.Helper()
	l, end, chain := journal.Scan(s)
	if !slices.Equal(l, want) || end != at || chain != last {
		t.Fatalf("%.99q: %d frames, %d, %x, not %d frames, %d, %x", s, len(l), end, chain, len(want), at, last)
	}
	if back, e := journal.All(l); e != api.OK || back != s[:end] {
		t.Fatalf("%.99q: %.99q, %d", s, back, e)
	}
}

// P25.1, P25.2. Frames whose bytes are scanned are as they were, cut short at any place, with any bytes behind them.
func TestScan(t *testing.T) {
	scans(t, "", nil, 0, begins())
	l := good()
	for n := range len(l) + 1 {
		s, ends, chains := rowOf(l[:n])
		if all, e := journal.All(l[:n]); all != s || e != api.OK {
			t.Fatalf("%d: %.99q, %d", n, all, e)
		}
		for _, junk := range []string{"", "J", "\x00", "J\x01", "J\x01\x00", "J\x01\x00\x00\x00\x00\x00\x00\x00\x00\x00", "junk", s} {
			if n == 0 || junk != s {
				scans(t, s+junk, l[:n], ends[n], chains[n])
			}
		}
	}
	short := l[:5]
	s, ends, chains := rowOf(short)
	for at := range len(s) {
		whole := 0
		for ends[whole+1] <= at {
			whole++
		}
		scans(t, s[:at], short[:whole], ends[whole], chains[whole])
	}
}

// P25.1. A frame isn't whole without its last bytes, also where these are 0.
func TestScanZeros(t *testing.T) {
	found := 0
	for i := 0; found < 3; i++ {
		f := frame(1+i%255, number(i))
		s := bytesOf(begins(), f)
		if s[len(s)-1] == 0 {
			found++
			scans(t, s, []journal.Frame{f}, len(s), behind(begins(), f))
			scans(t, s[:len(s)-1], nil, 0, begins())
		}
	}
}

// P25.1. A byte of a frame changed: that frame, and all behind it, are none.
func TestScanChanged(t *testing.T) {
	l := []journal.Frame{frame(1, "abc"), frame(255, ""), frame(2, strings.Repeat("z", 130)), frame(3, "J")}
	s, ends, chains := rowOf(l)
	for at := range len(s) {
		whole := 0
		for ends[whole+1] <= at {
			whole++
		}
		for b := range 256 {
			if byte(b) != s[at] {
				scans(t, s[:at]+string([]byte{byte(b)})+s[at+1:], l[:whole], ends[whole], chains[whole])
			}
		}
		scans(t, s[:at]+s[at+1:]+"\x00", l[:whole], ends[whole], chains[whole])
		scans(t, s[:at]+string([]byte{s[at] + 1})+s[at:], l[:whole], ends[whole], chains[whole])
	}
}

// P25.1. Frames that are right alone, but not where they stand: each one is bound to all that are ahead of it.
func TestScanMoved(t *testing.T) {
	l := []journal.Frame{frame(1, "a"), frame(1, "b"), frame(2, "a"), frame(2, "a")}
	_, _, chains := rowOf(l)
	var pieces []string
	for i, f := range l {
		pieces = append(pieces, bytesOf(chains[i], f))
	}
	for rows := range 256 {
		right, s := 0, ""
		for i := range 4 {
			k := rows >> (2 * i) & 3
			if right == i && k == i {
				right++
			}
			s += pieces[k]
		}
		end := len(strings.Join(pieces[:right], ""))
		scans(t, s, l[:right], end, chains[right])
	}
}

// P25.1. Whole frames whose sums are right, but that aren't right themselves.
func TestScanWrong(t *testing.T) {
	a := frame(5, "aa")
	s, chain := bytesOf(begins(), a), behind(begins(), a)
	seal := func(f journal.Frame) string { sum := behind(chain, f); return string(sum[:8]) }
	sum := behind(chain, frame(1, "x"))
	for _, next := range []string{
		"\x4a\x00\x00" + seal(frame(0, "")),
		"\x4a\x00\x00" + strings.Repeat("\x00", 8),
		"\x4a\x00\x01x" + seal(frame(0, "x")),
		"\x4b\x01\x01x" + seal(frame(1, "x")),
		"\x6a\x01\x01x" + seal(frame(1, "x")),
		"\x00\x01\x01x" + seal(frame(1, "x")),
		"\x4a\x01\x81\x00x" + seal(frame(1, "x")),
		"\x4a\x01\x80\x00" + seal(frame(1, "")),
		"\x4a\x01\x01x" + string(sum[24:]),
		"\x4a\x01\x01x" + string(sum[1:9]),
		"\x4a\x01\x01x" + string(sum[:7]),
		"\x4a\x01\x01x" + strings.Repeat("\x00", 8),
		"\x4a\x01x" + seal(frame(1, "x")),
		"\x4a\x01" + strings.Repeat("\xff", 8) + "\x3f",
		"\x4a\x01" + strings.Repeat("\x80", 8) + "\x40",
		bytesOf(begins(), frame(1, "x")),
	} {
		scans(t, s+next, []journal.Frame{a}, len(s), chain)
		scans(t, s+next+bytesOf(chain, frame(1, "x")), []journal.Frame{a}, len(s), chain)
	}
	scans(t, s+"\x4a\x01\x01x"+seal(frame(1, "x")), []journal.Frame{a, frame(1, "x")}, len(s)+12, behind(chain, frame(1, "x")))
}

// P25.2. Rows of any frames, with bytes changed, left out and put in: what is scanned is their beginning.
func TestScanAny(t *testing.T) {
	r := rand.New(rand.NewSource(252))
	clean := 0
	for range 3000 {
		l := some(r, r.Intn(6))
		s, ends, chains := rowOf(l)
		got, e := journal.All(l)
		if got != s || e != api.OK {
			t.Fatalf("%v: %q, %d", l, got, e)
		}
		at := r.Intn(len(s) + 1)
		changed := s[:at]
		switch r.Intn(4) {
		case 0:
			changed += string([]byte{byte(r.Intn(256))}) + s[min(at+1, len(s)):]
		case 1:
			changed += s[r.Intn(len(s)+1):]
		case 2:
			changed += s[at:] + s[at:]
		case 3:
			changed = s
		}
		same := 0
		for same < len(s) && same < len(changed) && s[same] == changed[same] {
			same++
		}
		whole := 0
		for whole < len(l) && ends[whole+1] <= same {
			whole++
		}
		scans(t, changed, l[:whole], ends[whole], chains[whole])
		if whole == len(l) {
			clean++
		}
	}
	if clean < 1000 || clean > 2500 {
		t.Error(clean)
	}
}

// some are so many frames.
func some(r *rand.Rand, n int) []journal.Frame {
	var l []journal.Frame
	for range n {
		payload := make([]byte, r.Intn(5))
		for i := range payload {
			payload[i] = "J\x00\x01x"[r.Intn(4)]
		}
		l = append(l, frame(1+r.Intn(255), string(payload)))
	}
	return l
}

// FuzzScan looks at any bytes.
func FuzzScan(f *testing.F) {
	s, _, _ := rowOf(good()[:5])
	f.Add(s)
	f.Fuzz(func(t *testing.T, s string) {
		l, end, chain := journal.Scan(s)
		back, ends, chains := rowOf(l)
		if back != s[:end] || ends[len(l)] != end || chains[len(l)] != chain {
			t.Errorf("%q: %v, %d", s, l, end)
		}
	})
}

// with is a disk with some bytes that are synced, and some that wait.
func with(t *testing.T, synced, waits string) *disk.Disk {
	t.Helper()
	d := disk.New()
	if d.Write(0, synced) != api.OK || d.Sync() != api.OK || d.Write(len(synced), waits) != api.OK {
		t.Fatal("no disk")
	}
	return d
}

// opened is the log of a disk, which has some frames.
func opened(t *testing.T, d *disk.Disk, want []journal.Frame) *journal.Log {
	t.Helper()
	x, l, e := journal.Open(d)
	if e != api.OK || x == nil || !slices.Equal(l, want) {
		t.Fatalf("%d frames, %d, not %d", len(l), e, len(want))
	}
	is(t, x, d, want)
	return x
}

// is looks at all that a log tells, of some frames.
func is(t *testing.T, x *journal.Log, d *disk.Disk, l []journal.Frame) {
	t.Helper()
	_, ends, chains := rowOf(l)
	if x.Len() != ends[len(l)] || x.Chain() != chains[len(l)] || x.Disk() != d {
		t.Fatalf("%d, %x, not %d, %x", x.Len(), x.Chain(), ends[len(l)], chains[len(l)])
	}
}

// told holds what a step told against what it must.
func told(t *testing.T, got, want api.Errno) {
	t.Helper()
	if got != want {
		t.Fatalf("%d, not %d", got, want)
	}
}

// P25.1. A log is on a disk that is there, and has power.
func TestOpenErrors(t *testing.T) {
	s, _, _ := rowOf(good())
	for range 2 {
		if x, l, e := journal.Open(nil); x != nil || l != nil || e != api.ErrArg {
			t.Error(l, e)
		}
	}
	for _, bytes := range []string{"", "junk", s, s + "junk"} {
		d := with(t, bytes, "")
		d.Crash(0, 0)
		if x, l, e := journal.Open(d); x != nil || l != nil || e != api.ErrDown || !d.Down() || d.All() != bytes {
			t.Error(l, e)
		}
	}
}

// P25.1. Clean bytes stay as they are: what waits still waits, and no step of a fuse is done.
func TestOpenClean(t *testing.T) {
	l := good()[:4]
	s, ends, _ := rowOf(l)
	for _, at := range ends {
		d := with(t, s[:at], s[at:])
		waits := d.Waiting()
		d.Arm(0, 0, 0)
		opened(t, d, l)
		if d.All() != s || d.Waiting() != waits || d.Kept() != s[:at] || d.Down() {
			t.Errorf("%q, %d", d.All(), d.Waiting())
		}
		told(t, d.Sync(), api.ErrDown)
	}
	d := disk.New()
	d.Arm(0, 0, 0)
	opened(t, d, nil)
	told(t, d.Write(0, "x"), api.ErrDown)
}

// P25.1. Bytes that aren't clean are cut, by one step, so that the frames are there for sure.
func TestOpenUnclean(t *testing.T) {
	l := good()[:4]
	s, ends, _ := rowOf(l)
	for n, at := range ends {
		for _, junk := range []string{"J", "junk", "\x00", "J\x01\x00\x00\x00\x00\x00\x00\x00\x00\x00", strings.Repeat("\x00", 99)} {
			for _, waits := range []string{"", s[:at] + junk, junk, "k"} {
				all := s[:at] + junk
				d := with(t, strings.TrimSuffix(all, waits), all[len(strings.TrimSuffix(all, waits)):])
				f := d.Copy()
				d.Arm(1, 0, 0)
				x := opened(t, d, l[:n])
				if d.All() != s[:at] || d.Kept() != s[:at] || d.Waiting() != 0 {
					t.Fatalf("%q, %q, %d", d.All(), d.Kept(), d.Waiting())
				}
				told(t, x.Sync(), api.ErrDown) // the second step
				d.Start()
				opened(t, d, l[:n])
				cutFails(t, f, l[:n])
			}
		}
	}
}

// cutFails looks at a log whose bytes aren't clean, but a crash comes in the place of the cut.
func cutFails(t *testing.T, d *disk.Disk, l []journal.Frame) {
	t.Helper()
	all := d.All()
	d.Arm(0, math.MaxUint64, 0)
	if x, got, e := journal.Open(d); x != nil || got != nil || e != api.ErrDown || !d.Down() || d.All() != all {
		t.Fatalf("%v, %d, %q", got, e, d.All())
	}
	d.Start()
	opened(t, d, l)
}

// P25.1. Frames are appended by one write each, and wait till they are synced.
func TestAppend(t *testing.T) {
	d := disk.New()
	x := opened(t, d, nil)
	l := good()
	for i, f := range l {
		told(t, x.Append(f), api.OK)
		is(t, x, d, l[:i+1])
		s, ends, _ := rowOf(l[:i+1])
		if d.All() != s || d.Waiting() != i%3+1 || d.Kept() != s[:ends[i-i%3]] {
			t.Fatalf("%d: %d, %d", i, d.Len(), d.Waiting())
		}
		opened(t, d.Copy(), l[:i+1])
		if i%3 == 2 {
			told(t, x.Sync(), api.OK)
			is(t, x, d, l[:i+1])
			if d.Kept() != s || d.Waiting() != 0 {
				t.Fatalf("%d: %d", i, d.Waiting())
			}
		}
	}
	x = opened(t, d, l) // a log goes on behind the frames that are there
	told(t, x.Append(frame(6, "more")), api.OK)
	is(t, x, d, append(l, frame(6, "more")))
	opened(t, d.Copy(), append(l, frame(6, "more")))
}

// P25.1. What isn't right is told ahead of what the disk tells; what is refused is not appended.
func TestAppendErrors(t *testing.T) {
	l := good()[:3]
	s, _, _ := rowOf(l)
	d := with(t, s, "")
	x := opened(t, d, l)
	d.Arm(0, 0, 0)
	for _, w := range wrongs() {
		told(t, x.Append(w.f), w.e)
		is(t, x, d, l)
	}
	if d.Down() || d.All() != s || d.Waiting() != 0 {
		t.Fatalf("%q", d.All())
	}
	d.Crash(0, 0)
	for _, w := range wrongs() {
		told(t, x.Append(w.f), w.e)
	}
	told(t, x.Append(frame(1, "")), api.ErrDown)
	told(t, x.Sync(), api.ErrDown)
	is(t, x, d, l)
	d.Start()
	told(t, x.Append(l[0]), api.OK)
	told(t, x.Sync(), api.OK)
	opened(t, d, append(l, l[0]))
}

// P25.1. A disk that has no room for a frame may have it for another one.
func TestAppendFull(t *testing.T) {
	const room = 100
	l := []journal.Frame{frame(1, strings.Repeat("f", most-room-14))}
	d := disk.New()
	x := opened(t, d, nil)
	told(t, x.Append(frame(1, strings.Repeat("g", most))), api.ErrFull)
	is(t, x, d, nil)
	told(t, x.Append(l[0]), api.OK)
	if d.Len() != most-room {
		t.Fatal(d.Len())
	}
	for n := room; n > room-11; n-- {
		told(t, x.Append(frame(2, strings.Repeat("h", n))), api.ErrFull)
		is(t, x, d, l)
	}
	l = append(l, frame(2, strings.Repeat("h", room-11)))
	told(t, x.Append(l[1]), api.OK)
	is(t, x, d, l)
	told(t, x.Append(frame(2, "")), api.ErrFull)
	told(t, x.Sync(), api.OK)
	if d.Len() != most {
		t.Fatal(d.Len())
	}
	opened(t, d, l)
}

// P25.1. A log that isn't opened anew behind a crash goes on at its own end.
func TestBehindCrash(t *testing.T) {
	a, b, c := frame(1, "aa"), frame(2, "bb"), frame(3, "c")
	first, _, _ := rowOf([]journal.Frame{a})
	other, _, _ := rowOf([]journal.Frame{a, c})
	for _, mask := range []uint64{0, math.MaxUint64} {
		for _, count := range []int{0, 5} {
			d := disk.New()
			x := opened(t, d, nil)
			told(t, x.Append(a), api.OK)
			told(t, x.Sync(), api.OK)
			d.Arm(0, mask, count)
			told(t, x.Append(b), api.ErrDown) // the crash may keep all of it, and yet it isn't appended
			is(t, x, d, []journal.Frame{a})
			told(t, x.Append(c), api.ErrDown)
			d.Start()
			told(t, x.Append(c), api.OK)
			is(t, x, d, []journal.Frame{a, c})
			if !strings.HasPrefix(d.All(), other) {
				t.Errorf("%q", d.All())
			}
			opened(t, d, []journal.Frame{a, c})
		}
	}
	d := disk.New()
	x := opened(t, d, nil)
	told(t, x.Append(a), api.OK)
	told(t, x.Sync(), api.OK)
	told(t, x.Append(b), api.OK)
	d.Crash(0, 0)
	d.Start()
	told(t, x.Append(c), api.ErrRange) // what it was to stand behind is lost
	is(t, x, d, []journal.Frame{a, b})
	if d.All() != first {
		t.Errorf("%q", d.All())
	}
}

// P25.3. Behind a crash by any mask and count: all that was synced is there; of a beginning of what waited just what is whole.
func TestCrash(t *testing.T) {
	l := []journal.Frame{frame(1, "one"), frame(2, ""), frame(3, "J\x01\x00"), frame(4, "four"), frame(5, "")}
	_, ends, _ := rowOf(l)
	for synced := range len(l) + 1 {
		for n := synced; n <= len(l); n++ {
			for mask := range uint64(1 << (n - synced)) {
				for count := -1; count < 16; count++ {
					x := grown(t, l[:n], synced)
					x.Disk().Crash(mask, count)
					x.Disk().Start()
					kept := synced
					for kept < n && mask>>(kept-synced)&1 == 1 {
						kept++
					}
					if kept < n && count >= ends[kept+1]-ends[kept] {
						kept++
					}
					beginning := mask&(mask+1) == 0
					reopened(t, x.Disk(), l[:n], kept, beginning)
				}
			}
		}
	}
}

// grown is a log of frames, of which so many are synced.
func grown(t *testing.T, l []journal.Frame, synced int) *journal.Log {
	t.Helper()
	x := opened(t, disk.New(), nil)
	for i := range len(l) + 1 {
		if i == synced {
			told(t, x.Sync(), api.OK)
		}
		if i < len(l) {
			told(t, x.Append(l[i]), api.OK)
		}
	}
	return x
}

// reopened opens a log that had some frames behind a crash that kept so many: just these, if it kept a beginning of what waited, else these at least.
func reopened(t *testing.T, d *disk.Disk, l []journal.Frame, kept int, beginning bool) {
	t.Helper()
	x, got, e := journal.Open(d)
	if e != api.OK || len(got) < kept || len(got) > len(l) || !slices.Equal(got, l[:len(got)]) || beginning && len(got) != kept {
		t.Fatalf("%v, %d, not %d of %v", got, e, kept, l)
	}
	is(t, x, d, got)
	s, _, _ := rowOf(got)
	if d.All() != s {
		t.Fatalf("%q, not %q", d.All(), s)
	}
	more := append(slices.Clone(got), frame(200, "more"))
	told(t, x.Append(more[len(got)]), api.OK)
	told(t, x.Sync(), api.OK)
	d.Crash(0, 0)
	d.Start()
	opened(t, d, more)
}

// model is a log by the words: its frames, beside another disk, on which the same is done by hand.
type model struct {
	l    []journal.Frame
	disk *disk.Disk
}

// append is an Append.
func (m *model) append(f journal.Frame) api.Errno {
	if f.Kind < 1 || f.Kind > 255 {
		return api.ErrArg
	}
	_, ends, chains := rowOf(m.l)
	e := m.disk.Write(ends[len(m.l)], bytesOf(chains[len(m.l)], f))
	if e == api.OK {
		m.l = append(slices.Clone(m.l), f)
	}
	return e
}

// open is an Open.
func (m *model) open() api.Errno {
	if m.disk.Down() {
		return api.ErrDown
	}
	s := m.disk.All()
	l, at, chain := []journal.Frame(nil), 0, begins()
	for more := true; more; {
		more = false
		for n := at; n <= len(s) && !more; n++ {
			if n-at >= 11 && s[at] == 'J' && s[at+1] != 0 && int(s[at+2]) == n-at-11 {
				f := frame(int(s[at+1]), s[at+3:n-8])
				if bytesOf(chain, f) == s[at:n] {
					l, at, chain, more = append(l, f), n, behind(chain, f), true
				}
			}
		}
	}
	if at < len(s) {
		if e := m.disk.Cut(at); e != api.OK {
			return e
		}
	}
	m.l = l
	return api.OK
}

// agree holds a log and its disk against the model.
func agree(t *testing.T, x *journal.Log, m *model) {
	t.Helper()
	is(t, x, x.Disk(), m.l)
	d := x.Disk()
	if d.All() != m.disk.All() || d.Kept() != m.disk.Kept() || d.Waiting() != m.disk.Waiting() || d.Down() != m.disk.Down() {
		t.Fatalf("%q, %q, %d, %v, not %q, %q, %d, %v", d.All(), d.Kept(), d.Waiting(), d.Down(), m.disk.All(), m.disk.Kept(), m.disk.Waiting(), m.disk.Down())
	}
}

// P25.1, P25.3. Any calls behind any others, through crashes, held against the words.
func TestAnyCalls(t *testing.T) {
	r := rand.New(rand.NewSource(25))
	for range 2000 {
		d, m := disk.New(), &model{disk: disk.New()}
		x := opened(t, d, nil)
		for range 30 {
			switch r.Intn(10) {
			case 0, 1, 2, 3:
				f := some(r, 1)[0]
				told(t, x.Append(f), m.append(f))
			case 4:
				told(t, x.Append(frame(0, "x")), m.append(frame(0, "x")))
			case 5:
				told(t, x.Sync(), m.disk.Sync())
			case 6:
				mask, count := r.Uint64(), r.Intn(16)-1
				d.Crash(mask, count)
				m.disk.Crash(mask, count)
			case 7:
				n, mask, count := r.Intn(5)-1, r.Uint64(), r.Intn(16)-1
				d.Arm(n, mask, count)
				m.disk.Arm(n, mask, count)
			case 8:
				d.Start()
				m.disk.Start()
			case 9:
				y, l, e := journal.Open(d)
				told(t, e, m.open())
				if (y == nil) != (e != api.OK) || e == api.OK && !slices.Equal(l, m.l) || e != api.OK && l != nil {
					t.Fatalf("%v, %d", l, e)
				}
				if e == api.OK {
					x = y
				}
			}
			agree(t, x, m)
		}
	}
}

// P25.1. The frames that are told are memory of their own.
func TestMemory(t *testing.T) {
	l := good()[:3]
	s, _, _ := rowOf(l)
	d := with(t, s, "")
	x, first, _ := journal.Open(d)
	_, second, _ := journal.Open(d)
	third, _, _ := journal.Scan(s)
	clear(first[:cap(first)])
	clear(third[:cap(third)])
	if !slices.Equal(second, l) {
		t.Error(second)
	}
	is(t, x, d, l)
	row := append(make([]journal.Frame, 0, 8), l...)
	if all, e := journal.All(row); all != s || e != api.OK || !slices.Equal(row[:8], append(slices.Clone(l), make([]journal.Frame, 5)...)) {
		t.Error(row[:8], e)
	}
}
