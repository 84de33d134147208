package state_test

import (
	"encoding/json"
	"os"
	"os/exec"
	"path/filepath"
	"strconv"
	"strings"
	"testing"

	"quitclaim/api"
	"quitclaim/patch"
	"quitclaim/sha"
	"quitclaim/state"
)

// weakSums stands for package sha where patches are to be had that have one id, or hang on themselves: its sums have two bytes that aren't 0.
const weakSums = `package sha

import "quitclaim/api"

type Hash struct{ bytes string }

func New() *Hash { return &Hash{} }

func (h *Hash) Write(s string) int {
	h.bytes += s
	return len(s)
}

func (h *Hash) Sum() api.Id { return Sum(h.bytes) }

func (h *Hash) Len() int { return len(h.bytes) }

func Sum(s string) api.Id {
	v := uint32(2166136261)
	for i := range len(s) {
		v = (v ^ uint32(s[i])) * 16777619
	}
	v = (v ^ v>>15) * 0x2c1b3c6d
	return api.Id{byte(v >> 24), byte(v >> 16)}
}
`

// weakly is set where the sums are weak.
const weakly = "QUITCLAIM_WEAK_SUMS"

// P18.1. Patches that hang on themselves, and unlike ones of one id: the same test is run once more, with weak sums.
func TestWeakSums(t *testing.T) {
	if os.Getenv(weakly) != "" {
		if sum := sha.Sum("a"); sum != (api.Id{sum[0], sum[1]}) {
			t.Fatal("the sums aren't weak")
		}
		t.Run("rings", rings)
		t.Run("twins", twins)
		return
	}
	sum, e := filepath.Abs("../sha/sha.go")
	if e != nil {
		t.Fatal(e)
	}
	weak, overlay := filepath.Join(t.TempDir(), "sha.go"), filepath.Join(t.TempDir(), "overlay.json")
	replace, e := json.Marshal(map[string]map[string]string{"Replace": {sum: weak}})
	if e != nil {
		t.Fatal(e)
	}
	for file, text := range map[string]string{weak: weakSums, overlay: string(replace)} {
		if e := os.WriteFile(file, []byte(text), 0o600); e != nil {
			t.Fatal(e)
		}
	}
	run := exec.Command("go", "test", "-count=1", "-vet=off", "-v", "-overlay="+overlay, "-run=^TestWeakSums$", ".")
	run.Env = append(os.Environ(), weakly+"=1")
	if out, e := run.CombinedOutput(); e != nil || !strings.Contains(string(out), "--- PASS: TestWeakSums") {
		t.Errorf("%v: %s", e, out)
	}
}

// with is a patch with some id, on top of others.
func with(t *testing.T, a api.Id, below ...api.Id) api.Patch {
	t.Helper()
	for i := range 1 << 24 {
		p := api.Patch{Deps: below, Note: strconv.Itoa(i), Ops: []api.Op{create("a")}}
		if b, _ := patch.Id(p); a == b {
			return p
		}
	}
	t.Fatalf("%x isn't found", a)
	return api.Patch{}
}

// rings looks at patches that hang on themselves.
func rings(t *testing.T) {
	one, x, y := on(t, nil, create("b")), api.Id{1, 2}, api.Id{3, 4}
	loop, here, there := with(t, x, x), with(t, x, y), with(t, y, x)
	above := api.Patch{Deps: []api.Id{x}, Ops: []api.Op{create("c")}}
	none := api.Patch{Deps: []api.Id{{9, 9, 9}}, Ops: []api.Op{create("c")}}
	l := []api.Patch{one}
	known := modelOf(t, []api.Patch{one, loop, there, above, none})
	for i := 0; len(l) <= 1000; i++ {
		p := api.Patch{Note: strconv.Itoa(i), Ops: []api.Op{{Kind: api.Revoke}}}
		a := idOf(t, p)
		if _, taken := known[a]; !taken {
			known[a], l = p, append(l, p)
		}
	}
	for _, ring := range [][]api.Patch{{loop}, {here, there}, {there, here}, {above, loop}, {here, above, there}} {
		for _, base := range [][]api.Patch{nil, l[:1], l[:1000], l} {
			refused(t, api.ErrOrder, append(append([]api.Patch{}, base...), ring...)...)
			refused(t, api.ErrDeps, append(append([]api.Patch{none}, base...), ring...)...)
			refused(t, api.ErrSame, append(append([]api.Patch{none, none}, base...), ring...)...)
			if s, e := made(t, l[:3]).With(append(append([]api.Patch{}, base...), ring...)); e != api.ErrOrder || s != nil {
				t.Errorf("%s: %d", brief(ring), e)
			}
		}
	}
	refused(t, api.ErrFull, l...)
}

// twins looks at unlike patches of one id: in a set the one that came first is it.
func twins(t *testing.T) {
	one := on(t, nil, create("b"))
	two := with(t, idOf(t, one))
	refused(t, api.ErrSame, one, two)
	refused(t, api.ErrSame, two, one)
	for _, l := range [][]api.Patch{{one, two}, {two, one}} {
		s := made(t, l[:1])
		u, e := s.With(l[1:])
		if e != api.OK {
			t.Fatal(e)
		}
		v, e := made(t, nil).With(l)
		if e != api.OK {
			t.Fatal(e)
		}
		w, e := u.With([]api.Patch{l[1], on(t, l[1:], create("c")), l[1]})
		if e != api.OK || w.Len() != 2 {
			t.Fatal(w.Len(), e)
		}
		for _, x := range []*state.Set{s, u, v} {
			looks(t, x, modelOf(t, l[:1]))
		}
		p, ok := w.Get(idOf(t, two))
		x, e := w.Tree()
		if _, there := x.Get(l[0].Ops[0].Path); !ok || !patch.Same(p, l[0]) || e != api.OK || !there || x.Len() != 2 {
			t.Errorf("%s, %s, %d", brief(p), brief(x.Files()), e)
		}
	}
}
