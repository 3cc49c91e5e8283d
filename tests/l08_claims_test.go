package tests

import (
	"fmt"
	"math"
	"slices"
	"strings"
	"testing"

	"loop.example/g00703/impl"
)

type (
	claim = impl.Claim
	mark  = impl.Mark
)

var (
	goodWorkers = []int64{0, 1, 2, 3}
	badWorkers  = []int64{4, 5, -1, 256, 1 << 32, math.MinInt64, math.MaxInt64}
	goodEpochs  = []int64{1, 2, 9, 10, 999999, 1000000}
	badEpochs   = []int64{0, -1, 1000001, -1000000, 1<<32 + 1, math.MinInt64, math.MaxInt64}
	goodUntils  = []int64{0, 1, 5, 10, 14, 999999, 1000000}
	badUntils   = []int64{-1, 1000001, -1000000, 1 << 32, math.MinInt64, math.MaxInt64}
)

// claimText is the document's text of a claim whose fields are in range.
func claimText(c claim) string { return fmt.Sprintf("%d %d %d", c.Worker, c.Epoch, c.Until) }

// markText is the document's text of a mark whose fields are in range.
func markText(m mark) string {
	return fmt.Sprintf("%s %d %d", map[bool]string{false: "failed", true: "ok"}[m.Ok], m.Epoch, m.Worker)
}

// isClaim fails if a claim is not recovered from its text.
func isClaim(t *testing.T, c claim) {
	t.Helper()
	recovers(t, c, claimText(c), impl.ClaimText, impl.ReadClaim)
}

// isNoClaim fails if a claim has a text, or its numbers are read as a claim.
func isNoClaim(t *testing.T, c claim) {
	t.Helper()
	hasNoText(t, c, claimText(c), impl.ClaimText, impl.ReadClaim)
}

// isMark fails if a mark is not recovered from its text.
func isMark(t *testing.T, m mark) {
	t.Helper()
	recovers(t, m, markText(m), impl.MarkText, impl.ReadMark)
}

// isNoMark fails if a mark has a text, or its parts are read as a mark.
func isNoMark(t *testing.T, m mark) {
	t.Helper()
	hasNoText(t, m, markText(m), impl.MarkText, impl.ReadMark)
}

func TestClaimConstants(t *testing.T) {
	if impl.NmIn != 1 || impl.NmClaim != 2 || impl.NmMark != 3 || impl.NmOut != 4 || impl.NmRes != 5 || impl.NmJob != 6 {
		t.Error("a kind is not the document's")
	}
}

func TestClaimExamples(t *testing.T) {
	if s := impl.ClaimText(claim{Worker: 2, Epoch: 3, Until: 14}); s != "2 3 14" {
		t.Errorf("ClaimText returns %q", s)
	}
	if s := impl.MarkText(mark{Ok: true, Epoch: 3, Worker: 2}); s != "ok 3 2" {
		t.Errorf("MarkText returns %q", s)
	}
	if s := impl.NameOf(impl.NmOut, 2, 3, 1, 0); s != "out/2/3/1/0" {
		t.Errorf("NameOf returns %q", s)
	}
}

// Promise 8: claims are recovered from their texts.
func TestClaimText(t *testing.T) {
	for _, worker := range goodWorkers {
		for _, epoch := range goodEpochs {
			for _, until := range goodUntils {
				isClaim(t, claim{Worker: worker, Epoch: epoch, Until: until})
			}
		}
	}
	for n := int64(1); n <= 2000; n++ {
		isClaim(t, claim{Worker: n % 4, Epoch: n, Until: 2000 - n})
	}
	for _, worker := range badWorkers {
		isNoClaim(t, claim{Worker: worker, Epoch: 1, Until: 1})
	}
	for _, epoch := range badEpochs {
		isNoClaim(t, claim{Worker: 1, Epoch: epoch, Until: 1})
	}
	for _, until := range badUntils {
		isNoClaim(t, claim{Worker: 1, Epoch: 1, Until: until})
	}
	isNoClaim(t, claim{})
}

// Promise 8: marks are recovered from their texts.
func TestMarkText(t *testing.T) {
	for _, ok := range []bool{false, true} {
		for _, epoch := range goodEpochs {
			for _, worker := range goodWorkers {
				isMark(t, mark{Ok: ok, Epoch: epoch, Worker: worker})
			}
		}
		for n := int64(1); n <= 2000; n++ {
			isMark(t, mark{Ok: ok, Epoch: n, Worker: n % 4})
		}
		for _, epoch := range badEpochs {
			isNoMark(t, mark{Ok: ok, Epoch: epoch, Worker: 1})
		}
		for _, worker := range badWorkers {
			isNoMark(t, mark{Ok: ok, Epoch: 1, Worker: worker})
		}
		isNoMark(t, mark{Ok: ok})
	}
}

// badNumbers are no decimal numbers, and numbers that are in no range.
func badNumbers() []string {
	return []string{"", "-", "+", "01", "00", "+1", "-1", "-0", "+0", "1.", "1.0", "1e0", "0x1", "1_0", "a", "one", "\x00", "1\n", "1\t", "\u0661", "1000001", "10000000", "9223372036854775807", "9223372036854775808", "18446744073709551617", "4294967297", "-9223372036854775808", strings.Repeat("0", 20) + "1", strings.Repeat("9", 1000), strings.Repeat("1", 100000)}
}

func TestReadClaimRejects(t *testing.T) {
	texts := []string{
		"", " ", "  ", "   ", "1", "1 ", "1 1", "1 1 ", " 1 1", "1 1 1 1", "1 1 1 ", " 1 1 1", "1  1 1", "1 1  1", "1 1  ", "  1 1", "1 1 1\n", "\n1 1 1", "1\t1 1", "1 1\t1", "1,1,1", "1/1/1",
		"ok 1 1", "ok 1 1 1", "1 1 ok", "1 1 1 ok", "4 1 1", "0 0 0", "0 0 1", "claim 1 1 1", "1 1 1 1 1 1", strings.Repeat("1 ", 100000), strings.Repeat(" ", 100000),
	}
	for _, n := range badNumbers() {
		texts = append(texts, n+" 1 1", "1 "+n+" 1", "1 1 "+n)
	}
	for _, s := range texts {
		if c, ok := impl.ReadClaim(s); ok || c != (claim{}) {
			t.Errorf("ReadClaim(%.100q) = %v, %v", s, c, ok)
		}
	}
	isClaim(t, claim{Worker: 1, Epoch: 1, Until: 1})
}

func TestReadMarkRejects(t *testing.T) {
	texts := []string{
		"", " ", "  ", "ok", "ok ", "ok 1", "ok 1 ", "ok  1", "failed", "failed 1", "failed 1 ", "1 1", " 1 1", "1 1 1", "ok 1 1 1", "ok 1 1 ", " ok 1 1", "ok  1 1", "ok 1  1", "ok 1 1\n", "ok\t1 1", "ok 1\t1",
		"failed 1 1 1", "failed  1 1", "failed 1  1", "failed 1 1 ", " failed 1 1", "ok failed 1 1", "ok ok 1 1", "failed ok 1 1", "fine 1 0", "Ok 1 1", "OK 1 1", "okay 1 1", "o 1 1", "fail 1 1", "Failed 1 1", "failed. 1 1", "true 1 1", "1 ok 1", "1 1 ok", "ok,1,1",
		"ok 0 0", "ok 0 1", "ok 1 4", "failed 0 0", "failed 1 4", strings.Repeat("ok ", 100000), strings.Repeat(" ", 100000), strings.Repeat("o", 100000) + " 1 1",
	}
	for _, n := range badNumbers() {
		texts = append(texts, "ok "+n+" 1", "ok 1 "+n, "failed "+n+" 1", "failed 1 "+n)
	}
	for _, s := range texts {
		if m, ok := impl.ReadMark(s); ok || m != (mark{}) {
			t.Errorf("ReadMark(%.100q) = %v, %v", s, m, ok)
		}
	}
	isMark(t, mark{Ok: true, Epoch: 1, Worker: 1})
	isMark(t, mark{Epoch: 1, Worker: 1})
}

// A string that is accepted is the text of the claim or mark that it yields.
func TestClaimsAcceptOnlyTexts(t *testing.T) {
	claims := []string{"2 3 14", "0 1 0", "3 1000000 1000000", "1 10 999999"}
	readsOnly(t, claims, impl.ReadClaim, claimText, func(c claim) bool { return c == claim{} })
	readsOnly(t, claims, impl.ReadClaim, impl.ClaimText, func(c claim) bool { return c == claim{} })
	marks := []string{"ok 3 2", "failed 1 0", "ok 1000000 3", "failed 10 1"}
	readsOnly(t, marks, impl.ReadMark, markText, func(m mark) bool { return m == mark{} })
	readsOnly(t, marks, impl.ReadMark, impl.MarkText, func(m mark) bool { return m == mark{} })
}

// nameForms has the word of each kind of name, and how many of the task, the
// epoch, the worker and the part occur in it.
var nameForms = map[int64]struct {
	word    string
	numbers int
}{
	impl.NmIn:    {"in", 1},
	impl.NmClaim: {"claim", 1},
	impl.NmMark:  {"mark", 1},
	impl.NmOut:   {"out", 4},
	impl.NmRes:   {"res", 3},
	impl.NmJob:   {"job", 0},
}

// nameOf is the document's name.
func nameOf(kind int64, numbers [4]int64) string {
	form := nameForms[kind]
	name := form.word
	for _, n := range numbers[:form.numbers] {
		if n < 0 || n > 1000000 {
			return ""
		}
		name += fmt.Sprintf("/%d", n)
	}
	return name
}

// everyFour calls f with all combinations of four of the numbers.
func everyFour(numbers []int64, f func(four [4]int64)) {
	for _, a := range numbers {
		for _, b := range numbers {
			for _, c := range numbers {
				for _, d := range numbers {
					f([4]int64{a, b, c, d})
				}
			}
		}
	}
}

// Each kind of name, with numbers in and out of range, whether they occur in
// the name or not.
func TestNameOf(t *testing.T) {
	everyFour([]int64{0, 1, 3, 10, 999999, 1000000, 1000001, -1, math.MinInt64, math.MaxInt64}, func(n [4]int64) {
		for kind := range nameForms {
			if s, want := impl.NameOf(kind, n[0], n[1], n[2], n[3]), nameOf(kind, n); s != want {
				t.Errorf("NameOf(%d, %v) = %q instead of %q", kind, n, s, want)
			}
		}
	})
	for _, test := range []struct {
		kind int64
		name string
	}{{impl.NmIn, "in/2"}, {impl.NmClaim, "claim/2"}, {impl.NmMark, "mark/2"}, {impl.NmOut, "out/2/3/1/0"}, {impl.NmRes, "res/2/3/1"}, {impl.NmJob, "job"}} {
		if s := impl.NameOf(test.kind, 2, 3, 1, 0); s != test.name {
			t.Errorf("NameOf(%d, 2, 3, 1, 0) = %q", test.kind, s)
		}
	}
	for _, kind := range []int64{0, -1, 7, 8, 256 + 1, 1<<32 + 1, math.MinInt64, math.MaxInt64} {
		if s := impl.NameOf(kind, 1, 1, 1, 1); s != "" {
			t.Errorf("NameOf(%d, ..) = %q", kind, s)
		}
	}
}

// Promise 8: different objects have different names. Each is a key.
func TestNamesDiffer(t *testing.T) {
	type named struct {
		kind    int64
		numbers [4]int64
	}
	seen := map[string]named{}
	everyFour([]int64{0, 1, 2, 3, 10, 11, 12, 100, 110, 111, 1000000}, func(n [4]int64) {
		for kind, form := range nameForms {
			object := named{kind: kind}
			copy(object.numbers[:form.numbers], n[:])
			name := impl.NameOf(kind, n[0], n[1], n[2], n[3])
			if other, ok := seen[name]; ok && other != object {
				t.Fatalf("%v and %v have the name %q", object, other, name)
			} else if !ok {
				seen[name] = object
				if !impl.CmdOk(create(name, "")) {
					t.Fatalf("%q is no key", name)
				}
			}
		}
	})
	if want := 1 + 3*11 + 11*11*11 + 11*11*11*11; len(seen) != want {
		t.Errorf("%d names instead of %d", len(seen), want)
	}
}

// Promise 15: equal arguments yield equal results.
func TestClaimsAreRepeated(t *testing.T) {
	answers := func() []string {
		c, okC := impl.ReadClaim("1 2 3")
		m, okM := impl.ReadMark("failed 2 3")
		return []string{impl.ClaimText(c), impl.MarkText(m), fmt.Sprint(c, okC, m, okM), impl.NameOf(impl.NmOut, 1, 2, 3, 4), impl.ClaimText(claim{}), impl.NameOf(0, 1, 2, 3, 4)}
	}
	first := answers()
	for range 20 {
		if again := answers(); !slices.Equal(first, again) {
			t.Fatalf("%q, then %q", first, again)
		}
	}
}
