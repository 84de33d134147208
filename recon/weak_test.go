package recon_test

import (
	"encoding/json"
	"math/rand"
	"os"
	"os/exec"
	"path/filepath"
	"slices"
	"strings"
	"testing"

	"quitclaim/api"
	"quitclaim/sha"
)

// weakSums stands for package sha where texts of one sum are to be had: its sums have one byte that isn't 0.
const weakSums = `package sha

import "quitclaim/api"

type Hash struct{ bytes string }

func New() *Hash { return &Hash{} }

func (h *Hash) Write(s string) int {
	h.bytes += s
	return len(s)
}

func (h *Hash) Sum() api.Id { return Sum(h.bytes) }

func (h *Hash) Len() int { return len(h.bytes) }

func Sum(s string) api.Id {
	v := uint32(2166136261)
	for i := range len(s) {
		v = (v ^ uint32(s[i])) * 16777619
	}
	v = (v ^ v>>15) * 0x2c1b3c6d
	return api.Id{byte(v >> 24)}
}
`

// weakly is set where the sums are weak.
const weakly = "QUITCLAIM_WEAK_SUMS"

// P23.1. Of several rows of ids that may lack the first is told: the same test is run once more, with weak sums.
func TestWeakSums(t *testing.T) {
	if os.Getenv(weakly) != "" {
		if sha.Sum("a") != (api.Id{sha.Sum("a")[0]}) {
			t.Fatal("the sums aren't weak")
		}
		weakLacks(t)
		return
	}
	sum, e := filepath.Abs("../sha/sha.go")
	if e != nil {
		t.Fatal(e)
	}
	weak, overlay := filepath.Join(t.TempDir(), "sha.go"), filepath.Join(t.TempDir(), "overlay.json")
	replace, e := json.Marshal(map[string]map[string]string{"Replace": {sum: weak}})
	if e != nil {
		t.Fatal(e)
	}
	for file, text := range map[string]string{weak: weakSums, overlay: string(replace)} {
		if e := os.WriteFile(file, []byte(text), 0o600); e != nil {
			t.Fatal(e)
		}
	}
	run := exec.Command("go", "test", "-count=1", "-vet=off", "-v", "-overlay="+overlay, "-run=^TestWeakSums$", ".")
	run.Env = append(os.Environ(), weakly+"=1")
	if out, e := run.CombinedOutput(); e != nil || !strings.Contains(string(out), "--- PASS: TestWeakSums") {
		t.Errorf("%v: %s", e, out)
	}
}

// weakLacks looks at rows whose ids may lack in several ways: the words tell which ones come first.
func weakLacks(t *testing.T) {
	r := rand.New(rand.NewSource(230))
	several := map[int]int{}
	for try := range 300 {
		l := alike(3+try%30, api.Id{byte(try), 2})
		if try%3 == 0 { // pairs of unlike residues, too, whose products come again
			l = slices.Concat(alike(4, api.Id{0, 2}), alike(4, api.Id{0, 3}), alike(4, api.Id{0, 4}), alike(4, api.Id{0, 6}))
			l = l[:12+try%5]
		}
		for range 4 {
			i, k := r.Intn(len(l)), r.Intn(len(l))
			out := l[min(i, k):][:1]
			if i != k {
				out = []api.Id{l[min(i, k)], l[max(i, k)]}
			}
			s := summaryOf(leaving(l, i, k))
			if !slices.Equal(lacks(t, l, s), out) {
				several[len(out)]++
			}
			s.Sum[0]++
			lacks(t, l, s)
		}
		s := summaryOf(l)
		lacks(t, l, s)
		s.Sum[0]++
		lacks(t, l, s)
	}
	if several[1] < 3 || several[2] < 30 {
		t.Error(several)
	}
}
