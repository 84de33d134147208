package check_test

import (
	"encoding/json"
	"os"
	"os/exec"
	"path/filepath"
	"strconv"
	"strings"
	"testing"

	"quitclaim/api"
	"quitclaim/patch"
	"quitclaim/sha"
)

// weakSums stands for package sha where unlike bodies are to be had that have one sum: its sums have two bytes that aren't 0.
const weakSums = `package sha

import "quitclaim/api"

type Hash struct{ bytes string }

func New() *Hash { return &Hash{} }

func (h *Hash) Write(s string) int {
	h.bytes += s
	return len(s)
}

func (h *Hash) Sum() api.Id { return Sum(h.bytes) }

func (h *Hash) Len() int { return len(h.bytes) }

func Sum(s string) api.Id {
	v := uint32(2166136261)
	for i := range len(s) {
		v = (v ^ uint32(s[i])) * 16777619
	}
	v = (v ^ v>>15) * 0x2c1b3c6d
	return api.Id{byte(v >> 24), byte(v >> 16)}
}
`

// weakly is set where the sums are weak.
const weakly = "QUITCLAIM_WEAK_SUMS"

// P27.1. Unlike bodies of one sum: the same test is run once more, with weak sums.
func TestWeakSums(t *testing.T) {
	if os.Getenv(weakly) != "" {
		if sum := sha.Sum("a"); sum != (api.Id{sum[0], sum[1]}) {
			t.Fatal("the sums aren't weak")
		}
		t.Run("leaves", leaves)
		t.Run("bodies", bodies)
		return
	}
	sum, e := filepath.Abs("../sha/sha.go")
	if e != nil {
		t.Fatal(e)
	}
	weak, overlay := filepath.Join(t.TempDir(), "sha.go"), filepath.Join(t.TempDir(), "overlay.json")
	replace, e := json.Marshal(map[string]map[string]string{"Replace": {sum: weak}})
	if e != nil {
		t.Fatal(e)
	}
	for file, text := range map[string]string{weak: weakSums, overlay: string(replace)} {
		if e := os.WriteFile(file, []byte(text), 0o600); e != nil {
			t.Fatal(e)
		}
	}
	run := exec.Command("go", "test", "-count=1", "-vet=off", "-v", "-overlay="+overlay, "-run=^TestWeakSums$", ".")
	run.Env = append(os.Environ(), weakly+"=1")
	if out, e := run.CombinedOutput(); e != nil || !strings.Contains(string(out), "--- PASS: TestWeakSums") {
		t.Errorf("%v: %s", e, out)
	}
}

// noted is a patch with another note, but the same sum, or one of another sum.
func noted(t *testing.T, p api.Patch, same bool) api.Patch {
	t.Helper()
	want, _ := patch.Sum(p)
	for i := range 1 << 24 {
		q := patch.Clone(p)
		q.Note = strconv.Itoa(i)
		if sum, _ := patch.Sum(q); (sum == want) == same && q.Note != p.Note {
			return q
		}
	}
	t.Fatal("none is found")
	return api.Patch{}
}

// leaves looks at a leaf that signed one sum alone, of unlike bodies: it signed once.
func leaves(t *testing.T) {
	one := plain(api.Id{1}, 4, "")
	two, three := noted(t, one, true), noted(t, one, false)
	if doubled(t, []api.Patch{one, two}) {
		t.Error("two sums are told of one")
	}
	for _, l := range [][]api.Patch{{one, three}, {two, three}, {one, two, three}} {
		if !doubled(t, l) {
			t.Error(brief(l))
		}
	}
}

// bodies looks at a signature beside another body of the sum that it signed: it is verified.
func bodies(t *testing.T) {
	one := by(t, "r", nil, create("a"))
	is(t, one.Key, []api.Patch{noted(t, one, true)}, api.Id{}, api.OK)
	tells(t, par, one.Key, []api.Patch{noted(t, one, false)})
}
