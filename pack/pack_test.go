package pack_test

import (
	"encoding/binary"
	"math"
	"math/rand"
	"slices"
	"strconv"
	"strings"
	"testing"

	"quitclaim/api"
	"quitclaim/pack"
)

// greatest is the greatest number that may be written.
const greatest = 1 << 62

// numbers are those around each power of two, up to the greatest one.
func numbers() []int {
	l := []int{0}
	for i := range 62 {
		p := 1 << i
		l = append(l, p-1, p, p+1, p+p/2)
	}
	return append(l, greatest-1, greatest)
}

// number is a number, written.
func number(v int) string { return string(binary.AppendUvarint(nil, uint64(v))) }

// text is a text, written.
func text(s string) string { return number(len(s)) + s }

// ids is a row of ids, written.
func ids(l []api.Id) string {
	s := binary.AppendUvarint(nil, uint64(len(l)))
	for _, a := range l {
		s = append(s, a[:]...)
	}
	return string(s)
}

// texts is a row of texts, written.
func texts(l []string) string {
	s := binary.AppendUvarint(nil, uint64(len(l)))
	for _, x := range l {
		s = append(s, text(x)...)
	}
	return string(s)
}

// row is so many ids, all unlike.
func row(n int) []api.Id {
	l := make([]api.Id, n)
	for i := range l {
		l[i] = api.Id{byte(i), byte(i >> 8), 15: byte(i + 3), 31: byte(200 - i)}
	}
	return l
}

// P5.1.
func TestWriter(t *testing.T) {
	for _, n := range []int{0, 1, 2, 127, 128, 129, 300, 16383, 16384} {
		long := strings.Repeat("x", n)
		many := slices.Repeat([]string{"", "a", "bc"}, n)[:n]
		for what, got := range map[string]string{
			text(long):  written(func(w *pack.Writer) { w.Text(long) }),
			ids(row(n)): written(func(w *pack.Writer) { w.Ids(row(n)) }),
			texts(many): written(func(w *pack.Writer) { w.Texts(many) }),
		} {
			if got != what {
				t.Errorf("%d: %.50q, not %.50q", n, got, what)
			}
		}
	}
	for b := range 256 {
		if s := written(func(w *pack.Writer) { w.Byte(byte(b)) }); s != string([]byte{byte(b)}) {
			t.Errorf("byte %d is %q", b, s)
		}
	}
	for _, a := range append(row(300), api.Id{}) {
		if s := written(func(w *pack.Writer) { w.Id(a) }); s != string(a[:]) {
			t.Errorf("%x is %q", a, s)
		}
	}
	if s := written(func(w *pack.Writer) { w.Truth(true); w.Truth(false) }); s != "\x01\x00" {
		t.Errorf("truths are %q", s)
	}
	if s := written(func(w *pack.Writer) { w.Ids(nil); w.Texts(nil); w.Ids([]api.Id{}); w.Texts([]string{}) }); s != "\x00\x00\x00\x00" {
		t.Errorf("empty rows are %q", s)
	}
	if s := written(func(*pack.Writer) {}); s != "" {
		t.Errorf("nothing is %q", s)
	}
}

// written is what is written by a writer's calls.
func written(calls func(w *pack.Writer)) string {
	var w pack.Writer
	calls(&w)
	return w.String()
}

// P5.1.
func TestWriterNum(t *testing.T) {
	for _, v := range numbers() {
		var w pack.Writer
		if !w.Num(v) || w.String() != number(v) {
			t.Errorf("%d is %q", v, w.String())
		}
	}
	for v, want := range map[int]string{0: "\x00", 127: "\x7f", 128: "\x80\x01", 300: "\xac\x02", greatest: "\x80\x80\x80\x80\x80\x80\x80\x80\x40"} {
		if s := written(func(w *pack.Writer) { w.Num(v) }); s != want {
			t.Errorf("%d is %q", v, s)
		}
	}
	for _, v := range []int{-1, -2, -127, -128, -300, math.MinInt, greatest + 1, greatest + 2, greatest + greatest/2, math.MaxInt} {
		var w pack.Writer
		w.Byte(7)
		if w.Num(v) || w.String() != "\x07" {
			t.Errorf("%d: %q", v, w.String())
		}
		if !w.Num(5) || w.String() != "\x07\x05" {
			t.Errorf("behind %d: %q", v, w.String())
		}
	}
}

// P5.1. Calls of one writer behind each other; what was told before stays.
func TestWriterGoesOn(t *testing.T) {
	var w, other pack.Writer
	want := ""
	var told, then []string
	for i := range 200 {
		switch i % 7 {
		case 0:
			w.Byte(byte(i))
			want += string([]byte{byte(i)})
		case 1:
			w.Num(i * i * i)
			want += number(i * i * i)
		case 2:
			w.Text(strconv.Itoa(i))
			want += text(strconv.Itoa(i))
		case 3:
			w.Id(api.Id{byte(i)})
			want += string([]byte{31: 0, 0: byte(i)})
		case 4:
			w.Truth(i%2 == 0)
			want += string([]byte{byte(1 - i%2)})
		case 5:
			w.Ids(row(i % 4))
			want += ids(row(i % 4))
		case 6:
			w.Texts([]string{"q", ""})
			want += texts([]string{"q", ""})
		}
		other.Text("other")
		told, then = append(told, w.String()), append(then, want)
	}
	if !slices.Equal(told, then) {
		t.Error("not the bytes of all calls")
	}
	if other.String() != strings.Repeat("\x05other", 200) {
		t.Error("another writer's bytes")
	}
}

// P5.1. What is handed in is neither changed nor kept, and what is told shares nothing.
func TestMemory(t *testing.T) {
	room := row(9)
	some := []string{"a", "b", "c", "d"}
	var w pack.Writer
	w.Ids(room[:4])
	w.Texts(some[:2])
	w.Id(room[0])
	if !slices.Equal(room, row(9)) || !slices.Equal(some, []string{"a", "b", "c", "d"}) {
		t.Error("something was changed")
	}
	for i := range room {
		room[i] = api.Id{99}
	}
	for i := range some {
		some[i] = "z"
	}
	if s := w.String(); s != ids(row(4))+texts([]string{"a", "b"})+string(make([]byte, 15))+"\x03"+string(make([]byte, 15))+"\xc8" {
		t.Errorf("%q", s)
	}
	s := ids(row(5)) + texts([]string{"a", "b"})
	r, q := pack.New(s), pack.New(s)
	a, b := r.Ids(5), q.Ids(5)
	c, d := r.Texts(2, 1), q.Texts(2, 1)
	for _, l := range [][]api.Id{a[:cap(a)], b[5:cap(b)]} {
		for i := range l {
			l[i] = api.Id{77}
		}
	}
	for _, l := range [][]string{c[:cap(c)], d[2:cap(d)]} {
		for i := range l {
			l[i] = "y"
		}
	}
	if !slices.Equal(b, row(5)) || !slices.Equal(d, []string{"a", "b"}) || r.End() != api.OK || q.End() != api.OK {
		t.Error("two answers share something")
	}
	if r = pack.New(s); !slices.Equal(r.Ids(5), row(5)) || !slices.Equal(r.Texts(2, 1), []string{"a", "b"}) {
		t.Error("the bytes themselves were changed")
	}
}

// P5.1, P5.2.
func TestReaderNum(t *testing.T) {
	for _, v := range numbers() {
		s := number(v)
		for _, rest := range []string{"", "\x00", "\x80", "\xff\xff"} {
			r := pack.New(s + rest)
			if got := r.Num(); got != v || r.Err() != api.OK || r.Place() != len(s) {
				t.Errorf("%q is %d, %d at %d", s+rest, got, r.Err(), r.Place())
			}
			if e := r.End(); (e == api.OK) != (rest == "") || e != api.OK && e != api.ErrForm {
				t.Errorf("%q ends with %d", s+rest, e)
			}
		}
		for n := range len(s) {
			failsNum(t, s[:n], api.ErrShort)
		}
	}
}

// failsNum looks whether a text isn't a number, by that error.
func failsNum(t *testing.T, s string, want api.Errno) {
	t.Helper()
	r := pack.New(s)
	if v := r.Num(); v != 0 || r.Err() != want || r.Place() != 0 || r.End() != want {
		t.Errorf("%q is %d, %d at %d", s, v, r.Err(), r.Place())
	}
}

// P5.1. The forms that no number has.
func TestReaderNumForms(t *testing.T) {
	on := strings.Repeat("\x80", 8)
	for i := range 8 {
		failsNum(t, on[i:]+"\x00", api.ErrForm)
		failsNum(t, on[i:]+"\x00\x01", api.ErrForm)
		failsNum(t, on[i:], api.ErrShort)
		failsNum(t, strings.Repeat("\xff", i)+"\x80\x00", api.ErrForm)
	}
	for b := 65; b < 256; b++ {
		ninth := string([]byte{byte(b)})
		failsNum(t, on+ninth, api.ErrForm)
		failsNum(t, on+ninth+"\x01", api.ErrForm)
		failsNum(t, strings.Repeat("\xff", 8)+ninth, api.ErrForm)
	}
	// Above the greatest number by one bit of each group, and by all.
	for i := range 8 {
		for bit := range 7 {
			low := []byte(on)
			low[i] |= 1 << bit
			failsNum(t, string(low)+"\x40", api.ErrForm)
		}
	}
	failsNum(t, strings.Repeat("\xff", 8)+"\x40", api.ErrForm)
	failsNum(t, strings.Repeat("\xff", 9), api.ErrForm)
	failsNum(t, strings.Repeat("\xff", 20), api.ErrForm)
	failsNum(t, "", api.ErrShort)
	if r := pack.New(on + "\x40"); r.Num() != greatest || r.End() != api.OK {
		t.Error("the greatest number")
	}
	if r := pack.New(strings.Repeat("\xff", 8) + "\x3f"); r.Num() != greatest-1 || r.End() != api.OK {
		t.Error("the greatest number but one")
	}
}

// P5.1.
func TestReaderBytes(t *testing.T) {
	all := make([]byte, 256)
	for b := range all {
		all[b] = byte(b)
	}
	r := pack.New(string(all))
	for b := range all {
		if r.Place() != b || r.End() != api.ErrForm || r.Err() != api.OK || r.Byte() != byte(b) {
			t.Errorf("byte %d", b)
		}
	}
	if r.End() != api.OK || r.Byte() != 0 || r.Err() != api.ErrShort || r.End() != api.ErrShort || r.Place() != 256 {
		t.Error("behind all bytes", r.Err(), r.Place())
	}
	for b := range 256 {
		r := pack.New("\x05" + string(all[b:]))
		r.Byte()
		v := r.Truth()
		want, place := api.OK, 2
		if b > 1 {
			want, place = api.ErrForm, 1
		}
		if v != (b == 1) || r.Err() != want || r.Place() != place {
			t.Errorf("truth %d is %v, %d at %d", b, v, r.Err(), r.Place())
		}
	}
	if r := pack.New(""); r.Truth() || r.Err() != api.ErrShort {
		t.Error("no truth", r.Err())
	}
	for n := range 40 {
		r := pack.New(string(all[100 : 100+n]))
		a := r.Id()
		if n < 32 {
			if a != (api.Id{}) || r.Err() != api.ErrShort || r.Place() != 0 {
				t.Errorf("%d bytes are %x, %d at %d", n, a, r.Err(), r.Place())
			}
		} else if string(a[:]) != string(all[100:132]) || r.Err() != api.OK || r.Place() != 32 {
			t.Errorf("%d bytes are %x, %d at %d", n, a, r.Err(), r.Place())
		}
	}
}

// bounds are how many there may be of something of which there are n.
func bounds(n int) []int {
	return []int{math.MinInt, -1, 0, n - 1, n, n + 1, math.MaxInt}
}

// P5.1, P5.2. Texts and rows of all lengths about the edges, bounded so, and cut short everywhere.
func TestReaderLists(t *testing.T) {
	for _, n := range []int{0, 1, 2, 3, 127, 128, 130} {
		long := strings.Repeat("ab", n)[:n]
		many := slices.Repeat([]string{"", "a", "bc"}, n)[:n]
		for _, most := range bounds(n) {
			cuts := func(name, s string, read func(r *pack.Reader) (right, none bool)) {
				for cut := 0; cut <= len(s); cut += 1 + cut/9 {
					looksAt(t, name, s, cut, n, most, read)
				}
				looksAt(t, name, s, len(s), n, most, read)
			}
			cuts("text", text(long), func(r *pack.Reader) (bool, bool) {
				got := r.Text(most)
				return got == long, got == ""
			})
			cuts("ids", ids(row(n)), func(r *pack.Reader) (bool, bool) {
				got := r.Ids(most)
				return slices.Equal(got, row(n)), len(got) == 0
			})
			cuts("texts", texts(many), func(r *pack.Reader) (bool, bool) {
				got := r.Texts(most, 2)
				return slices.Equal(got, many), len(got) == 0
			})
		}
	}
}

// looksAt reads s, of n items, cut short, behind a byte; most may be there.
func looksAt(t *testing.T, name, s string, cut, n, most int, read func(r *pack.Reader) (right, none bool)) {
	t.Helper()
	r := pack.New("\x07" + s[:cut])
	r.Byte()
	right, none := read(r)
	want, place := api.OK, 1+len(s)
	switch {
	case cut < len(number(n)):
		want, place = api.ErrShort, 1
	case n > most:
		want, place = api.ErrLong, 1
	case cut < len(s):
		want, place = api.ErrShort, 1
	}
	if r.Err() != want || r.Place() != place || r.End() != want || want == api.OK && !right || want != api.OK && !none {
		t.Errorf("%s of %d, at most %d, cut to %d of %d: %d at %d, %v %v", name, n, most, cut, len(s), r.Err(), r.Place(), right, none)
	}
}

// P5.1. Which error comes first within a row of texts.
func TestReaderTexts(t *testing.T) {
	for s, want := range map[string]api.Errno{
		"\x02\x01a\x02bc":     api.OK,
		"\x02\x01a\x03bcd":    api.ErrLong,
		"\x02\x01a\x03":       api.ErrLong,
		"\x02\x03abc\x03bcd":  api.ErrLong,
		"\x02\x01a\x02b":      api.ErrShort,
		"\x02\x01a":           api.ErrShort,
		"\x02\x01a\x80\x00":   api.ErrForm,
		"\x02\x80\x00\x03abc": api.ErrForm,
		"\x02\x01a\x80":       api.ErrShort,
		"\x03\x01a\x02bc":     api.ErrShort,
		"\x04\x01a\x02bc":     api.ErrLong,
		"\x04":                api.ErrLong,
		"\x83\x00\x01a":       api.ErrForm,
		"\x80":                api.ErrShort,
	} {
		r := pack.New(s)
		l := r.Texts(3, 2)
		if r.Err() != want || want != api.OK && (len(l) > 0 || r.Place() != 0) || want == api.OK && (r.Place() != len(s) || !slices.Equal(l, []string{"a", "bc"})) {
			t.Errorf("%q: %q, %d at %d", s, l, r.Err(), r.Place())
		}
	}
	if r := pack.New("\x02\x00\x00"); len(r.Texts(2, 0)) != 2 || r.End() != api.OK {
		t.Error("empty texts", r.Err())
	}
	for _, long := range []int{-1, math.MinInt} {
		if r := pack.New("\x02\x00\x00"); len(r.Texts(2, long)) != 0 || r.Err() != api.ErrLong || r.Place() != 0 {
			t.Error("texts shorter than nothing", r.Err())
		}
		if r := pack.New("\x00"); len(r.Texts(2, long)) != 0 || r.End() != api.OK {
			t.Error("no texts", r.Err())
		}
	}
}

// P5.1. Counts that no memory could hold.
func TestReaderGreatCounts(t *testing.T) {
	for _, n := range []int{1000, 1 << 31, 1<<58 - 1, 1 << 58, 1 << 59, greatest - 1, greatest} {
		for _, rest := range []string{"", "\x00", "\x01a\x00", strings.Repeat("\x00", 100)} {
			for _, most := range []int{n, greatest, math.MaxInt} {
				s := number(n) + rest
				a, b, c := pack.New(s), pack.New(s), pack.New(s)
				if a.Text(most) != "" || len(b.Ids(most)) != 0 || len(c.Texts(most, most)) != 0 {
					t.Error("something of nothing")
				}
				for _, r := range []*pack.Reader{a, b, c} {
					if r.Err() != api.ErrShort || r.Place() != 0 {
						t.Errorf("%q: %d at %d", s, r.Err(), r.Place())
					}
				}
			}
			if r := pack.New(number(n) + rest); r.Text(n-1) != "" || r.Err() != api.ErrLong {
				t.Error(n, r.Err())
			}
		}
	}
}

// P5.1.
func TestFail(t *testing.T) {
	for e := api.Errno(-2); e < 20; e++ {
		r := pack.New("\x01a\x05")
		r.Text(1)
		r.Fail(e)
		want := e
		if e == api.OK {
			want = api.ErrForm
		}
		if r.Err() != e || r.Place() != 2 || r.End() != want {
			t.Errorf("%d: %d, %d at %d", e, r.Err(), r.End(), r.Place())
		}
		r.Fail(api.ErrSum)
		if e == api.OK {
			e = api.ErrSum
		}
		r.Fail(api.OK)
		if r.Err() != e || r.End() != e || r.Place() != 2 || r.Byte() != 0 || r.Place() != 2 {
			t.Errorf("%d: %d at %d", e, r.Err(), r.Place())
		}
	}
	r := pack.New("\x01")
	if r.Byte() != 1 || r.End() != api.OK {
		t.Error(r.End())
	}
	if r.Fail(api.ErrArg); r.End() != api.ErrArg {
		t.Error(r.End())
	}
}

// P5.1. That bytes are left is told, and is nothing that goes wrong.
func TestEndChangesNothing(t *testing.T) {
	r := pack.New("\x05\x06")
	if r.End() != api.ErrForm || r.Err() != api.OK || r.Byte() != 5 || r.End() != api.ErrForm || r.Byte() != 6 || r.End() != api.OK || r.End() != api.OK {
		t.Error(r.Err(), r.Place())
	}
}

// reading is a call of a reader, and what it is handed.
type reading struct {
	call, most, long int
}

// of is what that reading tells, written again.
func (d reading) of(r *pack.Reader) string {
	var w pack.Writer
	switch d.call {
	case 0:
		w.Byte(r.Byte())
	case 1:
		w.Num(r.Num())
	case 2:
		w.Text(r.Text(d.most))
	case 3:
		w.Id(r.Id())
	case 4:
		w.Truth(r.Truth())
	case 5:
		w.Ids(r.Ids(d.most))
	case 6:
		w.Texts(r.Texts(d.most, d.long))
	}
	return w.String()
}

// size is how many bytes that reading goes over, and what is wrong.
func (d reading) size(s string) (int, api.Errno) {
	switch d.call {
	case 0:
		return fixed(s, 1)
	case 1:
		_, n, e := counted(s, greatest)
		return n, e
	case 2:
		return sized(s, d.most)
	case 3:
		return fixed(s, 32)
	case 4:
		if s != "" && s[0] > 1 {
			return 0, api.ErrForm
		}
		return fixed(s, 1)
	}
	count, at, e := counted(s, d.most)
	for i := 0; i < count && e == api.OK; i++ {
		n := 0
		if d.call == 5 {
			n, e = fixed(s[at:], 32)
		} else {
			n, e = sized(s[at:], d.long)
		}
		at += n
	}
	return at, e
}

// fixed is so many bytes, if they are there.
func fixed(s string, n int) (int, api.Errno) {
	if n > len(s) {
		return 0, api.ErrShort
	}
	return n, api.OK
}

// sized is how many bytes a text of at most so many has, with its number.
func sized(s string, most int) (int, api.Errno) {
	count, n, e := counted(s, most)
	if e == api.OK && count > len(s)-n {
		e = api.ErrShort
	}
	return n + count, e
}

// counted is a number of at most so much, and how many bytes it has.
func counted(s string, most int) (v, n int, e api.Errno) {
	for i := range len(s) {
		if i == 8 && s[i] > 64 {
			return 0, 0, api.ErrForm
		}
		if s[i] < 128 {
			v, n := binary.Uvarint([]byte(s))
			if v > greatest || s[i] == 0 && i > 0 {
				return 0, 0, api.ErrForm
			}
			if int(v) > most {
				return 0, 0, api.ErrLong
			}
			return int(v), n, api.OK
		}
	}
	return 0, 0, api.ErrShort
}

// P5.1, P5.2. Any readings behind any others: what ends well is written again as the very bytes, what doesn't is zero and stays.
func TestAnyReadings(t *testing.T) {
	rnd := rand.New(rand.NewSource(5))
	ended := map[api.Errno]int{}
	for range 60000 {
		var l []reading
		s := ""
		for range 1 + rnd.Intn(6) {
			d := reading{rnd.Intn(7), rnd.Intn(6) - 1, rnd.Intn(4) - 1}
			l = append(l, d)
			if rnd.Intn(8) > 0 {
				s += someBytes(rnd, d.call)
			} else {
				s += someBytes(rnd, 7)
			}
		}
		ended[follows(t, s, l)]++
	}
	for _, e := range []api.Errno{api.OK, api.ErrShort, api.ErrForm, api.ErrLong} {
		if ended[e] < 1000 {
			t.Error("too few that end so:", e, ended[e])
		}
	}
}

// follows does readings of a text, looks at each of them, and tells how they end.
func follows(t *testing.T, s string, l []reading) api.Errno {
	r := pack.New(s)
	at, wrong := 0, api.OK
	for _, d := range l {
		n, e := d.size(s[at:])
		got, want := d.of(r), zero(d)
		if wrong == api.OK {
			wrong = e
		}
		if wrong == api.OK {
			want = s[at : at+n]
			at += n
		}
		if got != want || r.Err() != wrong || r.Place() != at {
			t.Fatalf("%q, %v: %q, not %q; %d at %d, not %d at %d", s, d, got, want, r.Err(), r.Place(), wrong, at)
		}
	}
	end := wrong
	if wrong == api.OK && at < len(s) {
		end = api.ErrForm
	}
	if r.End() != end {
		t.Fatalf("%q: %d, not %d", s, r.End(), end)
	}
	return end
}

// zero is what a reading writes that tells nothing.
func zero(d reading) string {
	if d.call == 3 {
		return string(make([]byte, 32))
	}
	return "\x00"
}

// someBytes are bytes that such a reading may go over, or any.
func someBytes(rnd *rand.Rand, call int) string {
	switch call {
	case 0:
		return string([]byte{byte(rnd.Intn(256))})
	case 1:
		return number(numbers()[rnd.Intn(200)])
	case 2:
		return text("abcd"[:rnd.Intn(5)])
	case 3:
		return string(make([]byte, 31)) + "\x09"
	case 4:
		return string([]byte{byte(rnd.Intn(3))})
	case 5:
		return ids(row(rnd.Intn(4)))
	case 6:
		return texts([]string{"", "a", "", "bc"}[:rnd.Intn(5)])
	}
	switch rnd.Intn(3) {
	case 0:
		return strings.Repeat("\x80", rnd.Intn(10))
	case 1:
		return string(make([]byte, rnd.Intn(40)))
	}
	return string([]byte{byte(rnd.Intn(256)), byte(rnd.Intn(256))})
}

// P5.2. All numbers of few bytes: each form that is read is the one that is written.
func TestOneFormAlone(t *testing.T) {
	seen := map[int]bool{}
	for _, s := range short(3) {
		r := pack.New(s)
		v := r.Num()
		if r.End() != api.OK {
			continue
		}
		if seen[v] || number(v) != s {
			t.Errorf("%q is %d too", s, v)
		}
		seen[v] = true
	}
	for _, v := range numbers() {
		if v < 1<<14 && !seen[v] {
			t.Errorf("%d is of no form", v)
		}
	}
}

// short are all texts of one byte and two, and those of up to so many bytes of a few.
func short(most int) []string {
	var l []string
	for a := range 256 {
		l = append(l, string([]byte{byte(a)}))
		for b := range 256 {
			l = append(l, string([]byte{byte(a), byte(b)}))
		}
	}
	few := []string{"\x00", "\x01", "\x02", "\x40", "\x7f", "\x80", "\x81", "\xff"}
	last := few
	for n := 2; n <= most; n++ {
		var next []string
		for _, s := range last {
			for _, c := range few {
				next = append(next, s+c)
			}
		}
		if n > 2 {
			l = append(l, next...)
		}
		last = next
	}
	return l
}
