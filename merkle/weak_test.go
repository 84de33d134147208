package merkle_test

import (
	"encoding/json"
	"math/rand"
	"os"
	"os/exec"
	"path/filepath"
	"slices"
	"strings"
	"testing"

	"quitclaim/api"
	"quitclaim/merkle"
	"quitclaim/sha"
)

// weakSums stands for package sha where texts of one sum are to be had: its sums have one byte that isn't 0.
const weakSums = `package sha

import "quitclaim/api"

type Hash struct{ bytes string }

func New() *Hash { return &Hash{} }

func (h *Hash) Write(s string) int {
	h.bytes += s
	return len(s)
}

func (h *Hash) Sum() api.Id { return Sum(h.bytes) }

func (h *Hash) Len() int { return len(h.bytes) }

func Sum(s string) api.Id {
	v := uint32(2166136261)
	for i := range len(s) {
		v = (v ^ uint32(s[i])) * 16777619
	}
	v = (v ^ v>>15) * 0x2c1b3c6d
	return api.Id{byte(v >> 24)}
}
`

// weakly is set where the sums are weak.
const weakly = "QUITCLAIM_WEAK_SUMS"

// P21.1, P21.2. Two texts of one sum are found wherever they are: the same test is run once more, with weak sums.
func TestWeakSums(t *testing.T) {
	if os.Getenv(weakly) != "" {
		if sha.Sum("a") != (api.Id{sha.Sum("a")[0]}) {
			t.Fatal("the sums aren't weak")
		}
		t.Run("apart", apart)
		t.Run("proofs", weakProofs)
		return
	}
	sum, e := filepath.Abs("../sha/sha.go")
	if e != nil {
		t.Fatal(e)
	}
	weak, overlay := filepath.Join(t.TempDir(), "sha.go"), filepath.Join(t.TempDir(), "overlay.json")
	replace, e := json.Marshal(map[string]map[string]string{"Replace": {sum: weak}})
	if e != nil {
		t.Fatal(e)
	}
	for file, text := range map[string]string{weak: weakSums, overlay: string(replace)} {
		if e := os.WriteFile(file, []byte(text), 0o600); e != nil {
			t.Fatal(e)
		}
	}
	run := exec.Command("go", "test", "-count=1", "-vet=off", "-v", "-overlay="+overlay, "-run=^TestWeakSums$", ".")
	run.Env = append(os.Environ(), weakly+"=1")
	if out, e := run.CombinedOutput(); e != nil || !strings.Contains(string(out), "--- PASS: TestWeakSums") {
		t.Errorf("%v: %s", e, out)
	}
}

// rising is a row of so many ids.
func rising(r *rand.Rand, n int) []api.Id {
	seen := map[api.Id]bool{}
	for len(seen) < n {
		seen[api.Id{byte(r.Intn(5)), 31: byte(r.Intn(50))}] = true
	}
	var l []api.Id
	for a := range seen {
		l = append(l, a)
	}
	slices.SortFunc(l, func(a, b api.Id) int { return strings.Compare(string(a[:]), string(b[:])) })
	return l
}

// near is a row that rises, like another one but for an id or two.
func near(r *rand.Rand, l []api.Id) []api.Id {
	l = slices.Clone(l)
	for range 1 + r.Intn(2) {
		if len(l) > 0 {
			l[r.Intn(len(l))] = api.Id{byte(r.Intn(5)), 31: byte(r.Intn(50))}
		}
	}
	slices.SortFunc(l, func(a, b api.Id) int { return strings.Compare(string(a[:]), string(b[:])) })
	return slices.Compact(l)
}

// apart looks at rows of one set's sum: the texts that are told are unlike, have one sum, and are such as a set's sum is made of.
func apart(t *testing.T) {
	r := rand.New(rand.NewSource(210))
	seen, of := map[string]int{}, map[int]int{}
	for try := range 150000 {
		l := rising(r, r.Intn(9))
		m := rising(r, r.Intn(9))
		if try%3 > 0 {
			m = near(r, l)
		}
		x, _ := merkle.Sum(l)
		y, _ := merkle.Sum(m)
		a, b, ok := merkle.Apart(l, m)
		if want := x == y && !slices.Equal(l, m); ok != want || !want && (a != "" || b != "") {
			t.Fatalf("%x, %x: %x, %x, %v", l, m, a, b, ok)
		}
		if !ok {
			continue
		}
		if a == b || sha.Sum(a) != sha.Sum(b) || !slices.Contains(textsOf(l), a) || !slices.Contains(textsOf(m), b) {
			t.Fatalf("%x, %x: %x, %x", l, m, a, b)
		}
		kind := a[1 : 1+a[0]]
		if kind == "set" && len(l) != len(m) {
			kind = "count"
		}
		seen[kind]++
		of[len(l)]++
		if len(l) > 0 { // of rows that don't rise, or are one, none are told
			for _, rows := range [][2][]api.Id{{l, l}, {m, m}, {l, append(slices.Clone(m), api.Id{})}, {append(slices.Clone(l), api.Id{}), m}, {append(slices.Clone(l), l[0]), append(slices.Clone(l), l[0])}} {
				if a, b, ok := merkle.Apart(rows[0], rows[1]); a != "" || b != "" || ok {
					t.Fatalf("%x: %x, %x, %v", rows, a, b, ok)
				}
			}
		}
	}
	for _, s := range []string{"count", "set", "join", "item"} {
		if seen[s] < 20 {
			t.Errorf("%s: %d of %v", s, seen[s], seen)
		}
	}
	for n := range 9 {
		if of[n] < 5 {
			t.Errorf("%d: %v", n, of)
		}
	}
	unsorted(t, r)
}

// unsorted looks at rows that don't rise, but whose roots are those of rows that do, or of others that don't: none are told.
func unsorted(t *testing.T, r *rand.Rand) {
	t.Helper()
	found := 0
	for range 20000 {
		l, m := rising(r, 2+r.Intn(4)), rising(r, 2+r.Intn(4))
		r.Shuffle(len(l), func(i, j int) { l[i], l[j] = l[j], l[i] })
		if len(l) != len(m) || merkle.Root(l) != merkle.Root(m) || slices.IsSortedFunc(l, func(a, b api.Id) int { return strings.Compare(string(a[:]), string(b[:])) }) {
			continue
		}
		found++
		for _, rows := range [][2][]api.Id{{l, m}, {m, l}} {
			if a, b, ok := merkle.Apart(rows[0], rows[1]); a != "" || b != "" || ok {
				t.Fatalf("%x: %x, %x, %v", rows, a, b, ok)
			}
		}
	}
	if found < 5 {
		t.Error(found)
	}
}

// textsOf are all texts of whose sums a set's sum is made, and its own.
func textsOf(l []api.Id) []string {
	root := rootOf(l)
	return append(partsOf(l), text("set", eight(len(l)), string(root[:])))
}

// partsOf are the texts of a row's root, and of the roots of its parts.
func partsOf(l []api.Id) []string {
	texts := []string{rootText(l)}
	if len(l) > 1 {
		k := part(len(l))
		texts = append(append(texts, partsOf(l[:k])...), partsOf(l[k:])...)
	}
	return texts
}

// weakProofs looks at proofs by chance: Check tells what the words say, also where a proof leads to the sum by another way; what is proved is checked all the same.
func weakProofs(t *testing.T) {
	r := rand.New(rand.NewSource(211))
	told := map[bool]int{}
	look := func(sum, a api.Id, p, q merkle.Proof) {
		if in, ok := checks(t, sum, a, q); ok && !sameProof(p, q) {
			told[in]++
		}
	}
	for range 1000 {
		l := rising(r, 1+r.Intn(6))
		sum, _ := merkle.Sum(l)
		for _, a := range rising(r, 4) {
			proves(t, l, sum, a)
			p, _ := merkle.Prove(l, a)
			for _, q := range changed(p) {
				look(sum, a, p, q)
			}
			x := p.Places[0]
			for range 30 {
				y := merkle.Place{Id: x.Id, At: x.At + r.Intn(3) - 1, Way: slices.Clone(x.Way)}
				if r.Intn(2) == 0 {
					y.Id = rising(r, 1)[0]
				}
				if len(y.Way) > 0 {
					y.Way[r.Intn(len(y.Way))] = api.Id{byte(r.Intn(256))}
				}
				for _, places := range [][]merkle.Place{{y}, {x, y}, {y, x}} {
					look(sum, a, p, merkle.Proof{Count: len(l), Places: places})
					look(sum, y.Id, p, merkle.Proof{Count: len(l), Places: places})
				}
			}
		}
	}
	if told[true] < 50 || told[false] < 50 {
		t.Error(told)
	}
}
