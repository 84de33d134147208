package bundle_test

import (
	"encoding/json"
	"os"
	"os/exec"
	"path/filepath"
	"slices"
	"strconv"
	"strings"
	"testing"

	"quitclaim/api"
	"quitclaim/bundle"
	"quitclaim/patch"
	"quitclaim/sha"
)

// weakSums stands for package sha where patches are to be had that have one id, or hang on themselves: its sums have two bytes that aren't 0.
const weakSums = `package sha

import "quitclaim/api"

type Hash struct{ bytes string }

func New() *Hash { return &Hash{} }

func (h *Hash) Write(s string) int {
	h.bytes += s
	return len(s)
}

func (h *Hash) Sum() api.Id { return Sum(h.bytes) }

func (h *Hash) Len() int { return len(h.bytes) }

func Sum(s string) api.Id {
	v := uint32(2166136261)
	for i := range len(s) {
		v = (v ^ uint32(s[i])) * 16777619
	}
	v = (v ^ v>>15) * 0x2c1b3c6d
	return api.Id{byte(v >> 24), byte(v >> 16)}
}
`

// weakly is set where the sums are weak.
const weakly = "QUITCLAIM_WEAK_SUMS"

// P26.1. Patches that hang on themselves, and unlike ones of one id: the same test is run once more, with weak sums.
func TestWeakSums(t *testing.T) {
	if os.Getenv(weakly) != "" {
		if sum := sha.Sum("a"); sum != (api.Id{sum[0], sum[1]}) {
			t.Fatal("the sums aren't weak")
		}
		t.Run("rings", rings)
		t.Run("twins", twins)
		return
	}
	sum, e := filepath.Abs("../sha/sha.go")
	if e != nil {
		t.Fatal(e)
	}
	weak, overlay := filepath.Join(t.TempDir(), "sha.go"), filepath.Join(t.TempDir(), "overlay.json")
	replace, e := json.Marshal(map[string]map[string]string{"Replace": {sum: weak}})
	if e != nil {
		t.Fatal(e)
	}
	for file, text := range map[string]string{weak: weakSums, overlay: string(replace)} {
		if e := os.WriteFile(file, []byte(text), 0o600); e != nil {
			t.Fatal(e)
		}
	}
	run := exec.Command("go", "test", "-count=1", "-vet=off", "-v", "-overlay="+overlay, "-run=^TestWeakSums$", ".")
	run.Env = append(os.Environ(), weakly+"=1")
	if out, e := run.CombinedOutput(); e != nil || !strings.Contains(string(out), "--- PASS: TestWeakSums") {
		t.Errorf("%v: %s", e, out)
	}
}

// with is a patch with some id, on top of others.
func with(t *testing.T, a api.Id, below ...api.Id) api.Patch {
	t.Helper()
	for i := range 1 << 24 {
		p := api.Patch{Deps: below, Note: strconv.Itoa(i), Ops: []api.Op{create("a")}}
		if b, _ := patch.Id(p); a == b {
			return p
		}
	}
	t.Fatalf("%x isn't found", a)
	return api.Patch{}
}

// circles looks whether patches hang on themselves, so that none of their orders is one.
func circles(t *testing.T, l []api.Patch) {
	t.Helper()
	if got, e := bundle.Sorted(l); got != nil || e != api.ErrOrder || bundle.Ordered(l) {
		t.Errorf("%s: %s, %d", brief(l), brief(got), e)
	}
}

// rings looks at patches that hang on themselves, through others that are there; where these aren't there, they don't.
func rings(t *testing.T) {
	x, y, z := api.Id{1, 2}, api.Id{3, 4}, api.Id{5, 6}
	loop, here, there := with(t, x, x), with(t, x, y), with(t, y, x)
	a, b, c := with(t, x, z), with(t, y, x), with(t, z, y)
	above := api.Patch{Deps: []api.Id{x}, Ops: []api.Op{create("c")}}
	base := many(t, 3)
	for _, ring := range [][]api.Patch{{loop}, {here, there}, {there, here}, {above, loop}, {here, above, there}, {a, b, c}, {c, a, b}} {
		circles(t, ring)
		circles(t, slices.Concat(base, ring))
		circles(t, slices.Concat(ring, base, ring))
		for _, w := range wrongs() {
			for _, l := range [][]api.Patch{append(slices.Clone(ring), w.p), append([]api.Patch{w.p}, ring...)} {
				if got, e := bundle.Sorted(l); got != nil || e != w.e || bundle.Ordered(l) {
					t.Errorf("%s: %s, %d, not %d", brief(l), brief(got), e, w.e)
				}
			}
		}
		encodes(t, ring)
	}
	for _, l := range [][]api.Patch{{here}, {there}, {above, here}, {a, b}, {b, c}, {c, a}, {a, above}} {
		sorts(t, l, inOrder(t, l))
	}
}

// twins looks at unlike patches of one id: the first one that has it is it.
func twins(t *testing.T) {
	one := on(t, "one")
	two := with(t, idOf(t, one), api.Id{9, 9})
	nine := with(t, api.Id{9, 9})
	top := on(t, "top", one)
	for _, l := range [][]api.Patch{{one, two}, {two, one}, {one, two, one, two}, {two, two, one}} {
		sorts(t, l, l[:1])
		sorts(t, append(slices.Clone(l), top), []api.Patch{l[0], top})
		sorts(t, append([]api.Patch{top}, l...), []api.Patch{l[0], top})
		encodes(t, l)
	}
	// What the one that isn't taken hangs on counts nothing.
	sorts(t, []api.Patch{one, two, nine}, inOrder(t, []api.Patch{one, nine}))
	sorts(t, []api.Patch{two, one, nine}, []api.Patch{nine, two})
	back := with(t, api.Id{9, 9}, idOf(t, one))
	sorts(t, []api.Patch{one, two, back}, []api.Patch{one, back})
	circles(t, []api.Patch{two, one, back})
}
