package witness_test

import (
	"encoding/json"
	"os"
	"os/exec"
	"path/filepath"
	"strings"
	"testing"

	"quitclaim/api"
	"quitclaim/keytree"
	"quitclaim/sha"
	"quitclaim/signer"
	"quitclaim/witness"
)

// weakSums stands for package sha where texts of one sum are to be had: its sums have one byte that isn't 0.
const weakSums = `package sha

import "quitclaim/api"

type Hash struct{ bytes string }

func New() *Hash { return &Hash{} }

func (h *Hash) Write(s string) int {
	h.bytes += s
	return len(s)
}

func (h *Hash) Sum() api.Id { return Sum(h.bytes) }

func (h *Hash) Len() int { return len(h.bytes) }

func Sum(s string) api.Id {
	v := uint32(2166136261)
	for i := range len(s) {
		v = (v ^ uint32(s[i])) * 16777619
	}
	v = (v ^ v>>15) * 0x2c1b3c6d
	return api.Id{byte(v >> 24)}
}
`

// weakly is set where the sums are weak.
const weakly = "QUITCLAIM_WEAK_SUMS"

// P9.1, P9.2, P9.3. Two texts of one sum are found wherever they are: the same test is run once more, with weak sums.
func TestWeakSums(t *testing.T) {
	if os.Getenv(weakly) != "" {
		if sha.Sum("a") != (api.Id{sha.Sum("a")[0]}) {
			t.Fatal("the sums aren't weak")
		}
		collide(t)
		return
	}
	sum, e := filepath.Abs("../sha/sha.go")
	if e != nil {
		t.Fatal(e)
	}
	weak, overlay := filepath.Join(t.TempDir(), "sha.go"), filepath.Join(t.TempDir(), "overlay.json")
	replace, e := json.Marshal(map[string]map[string]string{"Replace": {sum: weak}})
	if e != nil {
		t.Fatal(e)
	}
	for file, text := range map[string]string{weak: weakSums, overlay: string(replace)} {
		if e := os.WriteFile(file, []byte(text), 0o600); e != nil {
			t.Fatal(e)
		}
	}
	run := exec.Command("go", "test", "-count=1", "-vet=off", "-v", "-overlay="+overlay, "-run=^TestWeakSums$", ".")
	run.Env = append(os.Environ(), weakly+"=1")
	if out, e := run.CombinedOutput(); e != nil || !strings.Contains(string(out), "--- PASS: TestWeakSums") {
		t.Errorf("%v: %s", e, out)
	}
}

// collide changes signatures till they are verified again, and looks at what they prove.
func collide(t *testing.T) {
	dice := uint32(3)
	roll := func(n int) int {
		dice = dice*1664525 + 1013904223
		return int(dice>>16) % n
	}
	seen := map[string]int{} // how often by where
	for try := range 80 {
		seed, p := "s"+string(rune('a'+try/4)), api.Params{Bits: 8, Height: try % 4}
		key, _ := keytree.Of(p, seed)
		leaf, sum := roll(1<<p.Height), api.Id{byte(roll(256))}
		x := signs(t, p, seed, leaf, sum)
		for range 1000 {
			y := copied(x)
			for range 1 + roll(2) {
				change(y, roll)
			}
			if signer.Verify(p, key, sum, y) != api.OK {
				continue
			}
			a := api.Id{byte(roll(256))}
			signed := []witness.Row{{leaf, a}, {roll(2 << p.Height), api.Id{^a[0]}}, {roll(1 << p.Height), turned(sum, roll(16))}}
			w := looks(t, p, seed, signed[:roll(4)], sum, y)
			seen[where(p, seed, w, sum, y)]++
			if w.Kind == witness.Collision {
				texts(t, p, sum, y, w)
			}
		}
	}
	for _, s := range []string{"key 0", "key 1", "key 2", "key 3", "leaf 0", "leaf 1", "leaf 2", "leaf 3", "node 1", "node 2", "node 3", "node 2 below", "node 3 below", "honest", "none", "preimage", "other secret"} {
		if seen[s] < 5 {
			t.Errorf("%s: %d of %v", s, seen[s], seen)
		}
	}
}

// change puts another sum, one that there may be, at one place of a signature.
func change(y api.Signature, roll func(int) int) {
	l := [][]api.Id{y.Shown, y.Hidden, y.Way}[roll(3)]
	if len(l) > 0 {
		l[roll(len(l))] = api.Id{byte(roll(256))}
	}
}

// where tells of which kind a witness is, and where its texts are from.
func where(p api.Params, seed string, w witness.Witness, sum api.Id, y api.Signature) string {
	high := string([]byte{' ', '0' + byte(p.Height)})
	switch {
	case w.Kind == witness.Honest:
		return "honest"
	case w.Kind == witness.None:
		return "none"
	case w.Kind == witness.Preimage && w.Value == secret(seed, w.Leaf, w.Bit, w.Side):
		return "preimage"
	case w.Kind == witness.Preimage:
		return "other secret"
	case strings.HasPrefix(w.A, "\x03key"):
		return "key" + high
	case strings.HasPrefix(w.A, "\x04leaf"):
		return "leaf" + high
	case w.A == textsOf(p, sum, y)[1]:
		return "node" + high
	}
	return "node" + high + " below"
}

// texts looks at two texts: they hold by themselves, whatever else a witness and a signature say, and not by one of them.
func texts(t *testing.T, p api.Params, sum api.Id, y api.Signature, w witness.Witness) {
	t.Helper()
	if w.A == w.B || sha.Sum(w.A) != sha.Sum(w.B) {
		t.Fatalf("%x", w)
	}
	others := []witness.Witness{
		{Kind: witness.Collision, A: w.B, B: w.A},
		{Kind: witness.Collision, A: w.A, B: w.A},
		{Kind: witness.Collision, A: w.A, B: w.B + "\x00"},
		{Kind: witness.Honest, A: w.A, B: w.B},
		{Kind: witness.None, A: w.A, B: w.B},
	}
	for i, v := range others {
		want := i == 0 || i == 2 && sha.Sum(v.A) == sha.Sum(v.B)
		if witness.Holds(p, "s", nil, sum, y, v) != want {
			t.Fatalf("%x isn't %v", v, want)
		}
	}
	for _, q := range wrong() {
		if witness.Holds(q, "s", nil, sum, y, w) {
			t.Fatalf("%v: %x", q, w)
		}
	}
	if !witness.Holds(p, "t", nil, api.Id{}, api.Signature{Leaf: 9}, w) {
		t.Fatalf("%x", w)
	}
}
