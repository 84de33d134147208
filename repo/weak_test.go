package repo_test

import (
	"encoding/json"
	"os"
	"os/exec"
	"path/filepath"
	"strconv"
	"strings"
	"testing"

	"quitclaim/api"
	"quitclaim/disk"
	"quitclaim/keytree"
	"quitclaim/patch"
	"quitclaim/repo"
	"quitclaim/sha"
	"quitclaim/signer"
)

// weakSums stands for package sha where patches are to be had that have one id, or hang on themselves, and seeds that have one key: its sums have two bytes that aren't 0.
const weakSums = `package sha

import "quitclaim/api"

type Hash struct{ bytes string }

func New() *Hash { return &Hash{} }

func (h *Hash) Write(s string) int {
	h.bytes += s
	return len(s)
}

func (h *Hash) Sum() api.Id { return Sum(h.bytes) }

func (h *Hash) Len() int { return len(h.bytes) }

func Sum(s string) api.Id {
	v := uint32(2166136261)
	for i := range len(s) {
		v = (v ^ uint32(s[i])) * 16777619
	}
	v = (v ^ v>>15) * 0x2c1b3c6d
	return api.Id{byte(v >> 24), byte(v >> 16)}
}
`

// weakly is set where the sums are weak.
const weakly = "QUITCLAIM_WEAK_SUMS"

// P30.1. Patches that hang on themselves, unlike ones of one id, and seeds of one key: the same test is run once more, with weak sums.
func TestWeakSums(t *testing.T) {
	if os.Getenv(weakly) != "" {
		if sum := sha.Sum("a"); sum != (api.Id{sum[0], sum[1]}) {
			t.Fatal("the sums aren't weak")
		}
		t.Run("rings", rings)
		t.Run("twins", twins)
		t.Run("seeds", alikes)
		return
	}
	sum, e := filepath.Abs("../sha/sha.go")
	if e != nil {
		t.Fatal(e)
	}
	weak, overlay := filepath.Join(t.TempDir(), "sha.go"), filepath.Join(t.TempDir(), "overlay.json")
	replace, e := json.Marshal(map[string]map[string]string{"Replace": {sum: weak}})
	if e != nil {
		t.Fatal(e)
	}
	for file, text := range map[string]string{weak: weakSums, overlay: string(replace)} {
		if e := os.WriteFile(file, []byte(text), 0o600); e != nil {
			t.Fatal(e)
		}
	}
	run := exec.Command("go", "test", "-count=1", "-vet=off", "-v", "-overlay="+overlay, "-run=^TestWeakSums$", ".")
	run.Env = append(os.Environ(), weakly+"=1")
	if out, e := run.CombinedOutput(); e != nil || !strings.Contains(string(out), "--- PASS: TestWeakSums") {
		t.Errorf("%v: %s", e, out)
	}
}

// having is a patch with some id, on top of others.
func having(t *testing.T, a api.Id, below ...api.Id) api.Patch {
	t.Helper()
	for i := range 1 << 24 {
		p := api.Patch{Deps: below, Note: strconv.Itoa(i), Ops: []api.Op{create("a")}}
		if b, _ := patch.Id(p); a == b {
			return p
		}
	}
	t.Fatalf("%x isn't found", a)
	return api.Patch{}
}

// short are params of keys that are soon made.
var short = api.Params{Bits: 8, Height: 1}

// recorded is a fresh repository with one patch, and what that one is.
func recorded(t *testing.T) (*repo.Repo, *disk.Disk, api.Patch) {
	t.Helper()
	d := disk.New()
	r, e := repo.Init(d, short, "r")
	told(t, e, api.OK)
	_, e = r.Record("r", "", []api.Op{create("a")})
	told(t, e, api.OK)
	return r, d, r.Log()[0].Patch
}

// rings looks at patches that hang on themselves: they aren't taken in, and that is told ahead of what else is wrong with them.
func rings(t *testing.T) {
	r, d, _ := recorded(t)
	was := d.All()
	x, y := api.Id{1, 2}, api.Id{3, 4}
	for _, l := range [][]api.Patch{{having(t, x, x)}, {having(t, x, y), having(t, y, x)}} {
		told(t, imported(t, r, bytesOf(t, l...), 0), api.ErrOrder)
		if d.All() != was || len(r.Log()) != 1 || r.Store().Broken() {
			t.Error(len(r.Log()))
		}
	}
}

// twins looks at a record that has the id of a patch that is there: that is passed over, its leaf is used, and its id is told.
func twins(t *testing.T) {
	r, d, one := recorded(t)
	a := idOf(t, one)
	for i := range 1 << 24 {
		s, e := signer.New(short, "r", 1)
		told(t, e, api.OK)
		note := strconv.Itoa(i)
		p, e := patch.Make(s, []api.Id{a}, note, []api.Op{create("b")})
		told(t, e, api.OK)
		if idOf(t, p) != a {
			continue
		}
		digest := r.Digest()
		b, e := r.Record("r", note, []api.Op{create("b")})
		if b != a || e != api.OK || len(r.Log()) != 1 || r.Digest() != digest || r.Next("r") != 2 || r.Store().Frames() != 4 || r.Checkout().Len() != 1 {
			t.Errorf("%x, %d, not %x", b, e, a)
		}
		told(t, imported(t, r, bytesOf(t, p), 0), api.OK)
		u, e := repo.Open(d)
		if e != api.OK || u.Digest() != digest || u.Next("r") != 2 {
			t.Error(e)
		}
		return
	}
}

// alikes looks at another seed of the root's key: it does what the root may do, by leaves that both have together.
func alikes(t *testing.T) {
	r, d, one := recorded(t)
	for i := range 1 << 24 {
		seed := strconv.Itoa(i)
		if key, _ := keytree.Of(short, seed); key != one.Key {
			continue
		}
		if n := r.Next(seed); n != 1 || !r.May(seed, create("b")) {
			t.Error(n)
		}
		_, e := r.Record(seed, "", []api.Op{create("b")})
		told(t, e, api.OK)
		if r.Next("r") != 2 || r.Checkout().Len() != 2 {
			t.Error(r.Next("r"))
		}
		_, e = r.Record("r", "", []api.Op{create("c")})
		told(t, e, api.ErrSpent)
		u, e := repo.Open(d)
		if e != api.OK || u.Digest() != r.Digest() {
			t.Error(e)
		}
		return
	}
}
