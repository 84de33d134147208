package store_test

import (
	"encoding/json"
	"os"
	"os/exec"
	"path/filepath"
	"strconv"
	"strings"
	"testing"

	"quitclaim/api"
	"quitclaim/disk"
	"quitclaim/journal"
	"quitclaim/patch"
	"quitclaim/sha"
	"quitclaim/store"
)

// weakSums stands for package sha where patches are to be had that have one id, or hang on themselves: its sums have two bytes that aren't 0.
const weakSums = `package sha

import "quitclaim/api"

type Hash struct{ bytes string }

func New() *Hash { return &Hash{} }

func (h *Hash) Write(s string) int {
	h.bytes += s
	return len(s)
}

func (h *Hash) Sum() api.Id { return Sum(h.bytes) }

func (h *Hash) Len() int { return len(h.bytes) }

func Sum(s string) api.Id {
	v := uint32(2166136261)
	for i := range len(s) {
		v = (v ^ uint32(s[i])) * 16777619
	}
	v = (v ^ v>>15) * 0x2c1b3c6d
	return api.Id{byte(v >> 24), byte(v >> 16)}
}
`

// weakly is set where the sums are weak.
const weakly = "QUITCLAIM_WEAK_SUMS"

// P28.1. Patches that hang on themselves, and unlike ones of one id: the same test is run once more, with weak sums.
func TestWeakSums(t *testing.T) {
	if os.Getenv(weakly) != "" {
		if sum := sha.Sum("a"); sum != (api.Id{sum[0], sum[1]}) {
			t.Fatal("the sums aren't weak")
		}
		t.Run("rings", rings)
		t.Run("twins", twins)
		return
	}
	sum, e := filepath.Abs("../sha/sha.go")
	if e != nil {
		t.Fatal(e)
	}
	weak, overlay := filepath.Join(t.TempDir(), "sha.go"), filepath.Join(t.TempDir(), "overlay.json")
	replace, e := json.Marshal(map[string]map[string]string{"Replace": {sum: weak}})
	if e != nil {
		t.Fatal(e)
	}
	for file, text := range map[string]string{weak: weakSums, overlay: string(replace)} {
		if e := os.WriteFile(file, []byte(text), 0o600); e != nil {
			t.Fatal(e)
		}
	}
	run := exec.Command("go", "test", "-count=1", "-vet=off", "-v", "-overlay="+overlay, "-run=^TestWeakSums$", ".")
	run.Env = append(os.Environ(), weakly+"=1")
	if out, e := run.CombinedOutput(); e != nil || !strings.Contains(string(out), "--- PASS: TestWeakSums") {
		t.Errorf("%v: %s", e, out)
	}
}

// having is a patch with some id, on top of others.
func having(t *testing.T, a api.Id, below ...api.Id) api.Patch {
	t.Helper()
	for i := range 1 << 24 {
		p := api.Patch{Deps: below, Note: strconv.Itoa(i), Ops: []api.Op{create("a")}}
		if b, _ := patch.Id(p); a == b {
			return p
		}
	}
	t.Fatalf("%x isn't found", a)
	return api.Patch{}
}

// written is a disk with frames, which the sums of this run are those of.
func written(t *testing.T, l ...journal.Frame) *disk.Disk {
	t.Helper()
	s, e := journal.All(l)
	told(t, e, api.OK)
	return with(t, s)
}

// patches are a store's, as they stand in its set.
func patches(s *store.Store) []api.Patch { return s.Set().Patches() }

// rings looks at patches that hang on themselves: they are no set.
func rings(t *testing.T) {
	x, y := api.Id{1, 2}, api.Id{3, 4}
	loop, here, there := having(t, x, x), having(t, x, y), having(t, y, x)
	base := api.Patch{Ops: []api.Op{create("b")}}
	first := start(par, root)
	for _, ring := range [][]api.Patch{{loop}, {here, there}, {there, here}, {base, there, here}} {
		s, e := store.Create(disk.New(), par, root)
		told(t, e, api.OK)
		if n, e := s.Put(ring); n != 0 || e != api.ErrOrder || s.Frames() != 1 || s.Broken() {
			t.Errorf("%s: %d, %d", brief(ring), n, e)
		}
		refuses(t, written(t, first, bundleOf(t, ring...)), api.ErrForm)
	}
	refuses(t, written(t, first, bundleOf(t, here), bundleOf(t, there)), api.ErrForm)
}

// twins looks at unlike patches of one id: the first one that has it is it, and in frames there may be no other one.
func twins(t *testing.T) {
	one := api.Patch{Ops: []api.Op{create("b")}}
	two := having(t, idOf(t, one))
	first := start(par, root)
	for _, l := range [][]api.Patch{{one, two}, {two, one}} {
		d := disk.New()
		s, e := store.Create(d, par, root)
		told(t, e, api.OK)
		if n, e := s.Put(l); n != 1 || e != api.OK {
			t.Fatal(n, e)
		}
		for _, m := range [][]api.Patch{l, l[1:], {l[1], l[0]}} {
			if n, e := s.Put(m); n != 0 || e != api.OK || s.Frames() != 2 {
				t.Error(n, e)
			}
		}
		u, e := store.Open(d)
		told(t, e, api.OK)
		for _, x := range []*store.Store{s, u} {
			if got := patches(x); len(got) != 1 || !patch.Same(got[0], l[0]) {
				t.Errorf("%s, not %s", brief(got), brief(l[0]))
			}
		}
		refuses(t, written(t, first, bundleOf(t, l...)), api.ErrForm)
		refuses(t, written(t, first, bundleOf(t, l[0]), bundleOf(t, l[1])), api.ErrForm)
	}
}
