package tests

import (
	"bytes"
	"encoding/binary"
	"fmt"
	"math"
	"math/rand"
	"slices"
	"strings"
	"testing"

	"loop.example/g00703/impl"
)

type rec = impl.Rec

// show returns the first few records in a form that shows every byte.
func show(l ...rec) string {
	return fmt.Sprintf("%d %+q", len(l), fmt.Sprint(l[:min(len(l), 8)]))
}

func longKey(n int) string { return strings.Repeat("k", n) }

// orderedRecs are valid records, each less than the next one.
func orderedRecs() []rec {
	return []rec{
		{Key: "", N: math.MinInt64},
		{Key: "", N: -1},
		{Key: "", N: 0},
		{Key: "", N: math.MaxInt64},
		{Key: "\x00", N: 5},
		{Key: "\n", N: -300},
		{Key: "a", N: math.MinInt64},
		{Key: "a", N: math.MinInt64 + 1},
		{Key: "a", N: -256},
		{Key: "a", N: -2},
		{Key: "a", N: 1},
		{Key: "a", N: math.MaxInt64 - 1},
		{Key: "a", N: math.MaxInt64},
		{Key: "a\x00", N: 0},
		{Key: "ab", N: -2},
		{Key: "b", N: -7},
		{Key: longKey(impl.MaxKey - 1), N: 9},
		{Key: longKey(impl.MaxKey), N: 3},
		{Key: "\x7f", N: 0},
		{Key: "\x80", N: 0},
		{Key: "\xff", N: -1},
		{Key: "\xff\xff", N: -2},
	}
}

// exampleRun is the run of the example of Sorted.
func exampleRun() []rec {
	return []rec{{Key: "ab", N: -2}, {Key: "ab", N: -2}, {Key: "b", N: -1}, {Key: "b", N: 1}}
}

// manyRecs returns n records in order, four of each key, two of them equal.
func manyRecs(n int) []rec {
	l := make([]rec, n)
	for i := range l {
		l[i] = rec{Key: string([]byte{byte(i / 1024), byte(i / 4)}), N: int64(i%4/2) - 1}
	}
	return l
}

// notRuns are lists that are no runs.
func notRuns() [][]rec {
	tooLong := rec{Key: longKey(impl.MaxKey + 1), N: 1}
	last := rec{Key: "\xff", N: 1}
	return [][]rec{
		{{Key: "b", N: 1}, {Key: "a", N: 1}},
		{{Key: "a", N: 1}, {Key: "a", N: 0}},
		{{Key: "a", N: 1}, {Key: "a", N: -1}},
		{{Key: "a", N: math.MaxInt64}, {Key: "a", N: math.MinInt64}},
		{{Key: "a", N: 1}, {Key: "", N: 1}},
		{{Key: "\xff", N: 1}, {Key: "a", N: 1}},
		{{Key: "a", N: 1}, {Key: "b", N: 1}, {Key: "b", N: 0}},
		{{Key: "b", N: 0}, {Key: "a", N: 1}, {Key: "b", N: 1}},
		{tooLong},
		{{Key: "a", N: 1}, tooLong},
		{tooLong, last},
		{{Key: "a", N: 1}, tooLong, last},
		manyRecs(impl.MaxRecs + 1),
		slices.Repeat([]rec{{Key: "a", N: 1}}, impl.MaxRecs+1),
	}
}

// runs are runs: the empty one, ones at the limits, ones with equal records.
func runs() [][]rec {
	all := [][]rec{nil, {}, exampleRun(), orderedRecs(), manyRecs(impl.MaxRecs)}
	for _, r := range orderedRecs() {
		all = append(all, []rec{r}, []rec{r, r}, slices.Repeat([]rec{r}, impl.MaxRecs))
	}
	return all
}

func TestRecordLimits(t *testing.T) {
	if impl.MaxKey != 40 || impl.MaxRecs != 600 {
		t.Error("a limit is not the document's")
	}
}

func TestRecOk(t *testing.T) {
	for _, r := range orderedRecs() {
		if !impl.RecOk(r) {
			t.Errorf("%s is not valid", show(r))
		}
	}
	for _, n := range []int{impl.MaxKey + 1, 255, 256, 296, 100000} {
		if impl.RecOk(rec{Key: longKey(n)}) {
			t.Errorf("a Key of %d bytes is valid", n)
		}
	}
	if impl.RecOk(rec{Key: strings.Repeat("\u00e9", impl.MaxKey/2+1)}) {
		t.Error("a Key is measured in letters")
	}
}

func TestRecLess(t *testing.T) {
	l := orderedRecs()
	for i, a := range l {
		for j, b := range l {
			if impl.RecLess(a, b) != (i < j) {
				t.Errorf("RecLess(%s, %s) is %v", show(a), show(b), i >= j)
			}
		}
	}
	tooLong := rec{Key: longKey(impl.MaxKey + 1)}
	for _, r := range append(l, tooLong) {
		if impl.RecLess(r, tooLong) || impl.RecLess(tooLong, r) {
			t.Errorf("%s is compared with a record that is not valid", show(r))
		}
	}
}

func TestRunOk(t *testing.T) {
	for _, l := range runs() {
		if !impl.RunOk(l) {
			t.Errorf("no run: %s", show(l...))
		}
	}
	for _, l := range notRuns() {
		if impl.RunOk(l) {
			t.Errorf("a run: %s", show(l...))
		}
	}
}

// counts returns how often each record occurs.
func counts(l []rec) map[rec]int {
	n := map[rec]int{}
	for _, r := range l {
		n[r]++
	}
	return n
}

// sorts fails if Sorted does not return a run with each record as often.
func sorts(t *testing.T, l []rec) {
	t.Helper()
	run := impl.Sorted(l)
	if !impl.RunOk(run) || len(run) != len(l) {
		t.Fatalf("Sorted(%s) = %s", show(l...), show(run...))
	}
	given, got := counts(l), counts(run)
	for r, n := range given {
		if got[r] != n {
			t.Fatalf("Sorted(%s) has %s %d times", show(l...), show(r), got[r])
		}
	}
}

func TestSortedExample(t *testing.T) {
	run := impl.Sorted([]rec{{Key: "b", N: 1}, {Key: "ab", N: -2}, {Key: "b", N: -1}, {Key: "ab", N: -2}})
	if !slices.Equal(run, exampleRun()) {
		t.Errorf("%s", show(run...))
	}
	if len(impl.Sorted(nil)) != 0 || len(impl.Sorted([]rec{})) != 0 {
		t.Error("of no records, some are returned")
	}
}

// Promise 2: sorting yields a run that has each record as often.
func TestSorted(t *testing.T) {
	items := []rec{{Key: "", N: 0}, {Key: "a", N: math.MaxInt64}, {Key: "a", N: math.MinInt64}, {Key: "\xff", N: -1}}
	for _, pick := range textsOver("\x00\x01\x02\x03", 6) {
		var l []rec
		for i := range len(pick) {
			l = append(l, items[pick[i]])
		}
		sorts(t, l)
	}
	random := rand.New(rand.NewSource(1))
	for range 100 {
		l := make([]rec, random.Intn(impl.MaxRecs+1))
		for i := range l {
			l[i] = orderedRecs()[random.Intn(len(orderedRecs()))]
		}
		sorts(t, l)
	}
	for _, l := range runs() {
		if run := impl.Sorted(l); !slices.Equal(run, l) {
			t.Errorf("Sorted changes the run %s", show(l...))
		}
		back := slices.Clone(l)
		slices.Reverse(back)
		if run := impl.Sorted(back); !slices.Equal(run, l) {
			t.Errorf("Sorted of %s, reversed, is %s", show(l...), show(run...))
		}
	}
}

func TestSortedRejects(t *testing.T) {
	tooLong := rec{Key: longKey(impl.MaxKey + 1), N: 1}
	for _, l := range [][]rec{
		{tooLong},
		{{Key: "b"}, tooLong, {Key: "a"}},
		{{Key: "b"}, {Key: "a"}, tooLong},
		manyRecs(impl.MaxRecs + 1),
		append(manyRecs(impl.MaxRecs-1), tooLong),
	} {
		if run := impl.Sorted(l); len(run) != 0 {
			t.Errorf("Sorted(%s) = %s", show(l...), show(run...))
		}
	}
}

func TestKeysOf(t *testing.T) {
	if keys := impl.KeysOf(exampleRun()); !slices.Equal(keys, []string{"ab", "b"}) {
		t.Errorf("%q", keys)
	}
	for _, l := range runs() {
		var want []string
		for _, r := range l {
			want = append(want, r.Key)
		}
		want = slices.Compact(want)
		if keys := impl.KeysOf(l); !slices.Equal(keys, want) {
			t.Errorf("KeysOf(%s) = %.100q", show(l...), keys)
		}
	}
	for _, l := range notRuns() {
		if keys := impl.KeysOf(l); len(keys) != 0 {
			t.Errorf("KeysOf(%s) = %.100q", show(l...), keys)
		}
	}
}

func TestFindRec(t *testing.T) {
	if n, ok := impl.FindRec(exampleRun(), "b"); !ok || n != -1 {
		t.Errorf("%d, %v", n, ok)
	}
	for _, l := range runs() {
		for i, r := range l {
			first := i == 0 || l[i-1].Key != r.Key
			if n, ok := impl.FindRec(l, r.Key); !ok || first && n != r.N {
				t.Errorf("FindRec(%s, %q) = %d, %v", show(l...), r.Key, n, ok)
			}
		}
	}
	for _, key := range []string{"", "a", "aba", "abc", "b\x00", "c", "B", longKey(impl.MaxKey + 1)} {
		if n, ok := impl.FindRec(exampleRun(), key); ok || n != 0 {
			t.Errorf("FindRec of %q: %d, %v", key, n, ok)
		}
	}
	if n, ok := impl.FindRec(nil, ""); ok || n != 0 {
		t.Errorf("FindRec of no records: %d, %v", n, ok)
	}
	for _, l := range notRuns() {
		for _, r := range l {
			if n, ok := impl.FindRec(l, r.Key); ok || n != 0 {
				t.Errorf("FindRec(%s, %q) = %d, %v", show(l...), r.Key, n, ok)
			}
		}
	}
}

// bytesOf writes records, whether they are a run or not.
func bytesOf(l []rec) string {
	var b bytes.Buffer
	for _, r := range l {
		b.WriteByte(byte(len(r.Key)))
		b.WriteString(r.Key)
		binary.Write(&b, binary.LittleEndian, r.N)
	}
	return b.String()
}

func TestRunBytes(t *testing.T) {
	l := []rec{{Key: "ab", N: -2}, {Key: "b", N: 1}}
	if s := impl.RunBytes(l); s != "\x02ab\xfe\xff\xff\xff\xff\xff\xff\xff\x01b\x01\x00\x00\x00\x00\x00\x00\x00" {
		t.Errorf("%q", s)
	}
	for _, r := range []struct {
		n    int64
		word string
	}{
		{0, "\x00\x00\x00\x00\x00\x00\x00\x00"},
		{-1, "\xff\xff\xff\xff\xff\xff\xff\xff"},
		{math.MinInt64, "\x00\x00\x00\x00\x00\x00\x00\x80"},
		{math.MaxInt64, "\xff\xff\xff\xff\xff\xff\xff\x7f"},
		{0x0102030405060708, "\x08\x07\x06\x05\x04\x03\x02\x01"},
		{-256, "\x00\xff\xff\xff\xff\xff\xff\xff"},
	} {
		if s := impl.RunBytes([]rec{{N: r.n}}); s != "\x00"+r.word {
			t.Errorf("RunBytes of %d: %q", r.n, s)
		}
	}
	for _, l := range runs() {
		if s := impl.RunBytes(l); s != bytesOf(l) {
			t.Errorf("RunBytes(%s) = %.100q", show(l...), s)
		}
	}
	for _, l := range notRuns() {
		if s := impl.RunBytes(l); s != "" {
			t.Errorf("RunBytes(%s) = %.100q", show(l...), s)
		}
	}
}

// Promise 2: a run is recovered from its bytes.
func TestReadRun(t *testing.T) {
	for _, l := range runs() {
		if back, ok := impl.ReadRun(impl.RunBytes(l)); !ok || !slices.Equal(back, l) {
			t.Errorf("ReadRun of %s = %s, %v", show(l...), show(back...), ok)
		}
	}
	if l, ok := impl.ReadRun(""); !ok || len(l) != 0 {
		t.Errorf("ReadRun of nothing: %s, %v", show(l...), ok)
	}
}

func rejectsRun(t *testing.T, s string) {
	t.Helper()
	if l, ok := impl.ReadRun(s); ok || len(l) != 0 {
		t.Errorf("ReadRun(%.100q) = %s, %v", s, show(l...), ok)
	}
}

func TestReadRunRejects(t *testing.T) {
	for _, l := range notRuns() {
		rejectsRun(t, bytesOf(l))
	}
	whole := impl.RunBytes(orderedRecs())
	ends := map[int]bool{}
	for i := range orderedRecs() {
		ends[len(impl.RunBytes(orderedRecs()[:i]))] = true
	}
	for i := range len(whole) {
		if !ends[i] {
			rejectsRun(t, whole[:i])
		}
	}
	for b := range 256 {
		first := string([]byte{byte(b)})
		rejectsRun(t, first)
		rejectsRun(t, whole+first)
		if b > impl.MaxKey {
			rejectsRun(t, first+strings.Repeat("k", b)+"\x01\x00\x00\x00\x00\x00\x00\x00")
		}
	}
	rejectsRun(t, "x")
	rejectsRun(t, strings.Repeat("\x00", 9*(impl.MaxRecs+1)))
	rejectsRun(t, strings.Repeat("\x00", 9*100000))
}

// A string that ReadRun accepts is the RunBytes of what it returns.
func TestReadRunAcceptsOnlyBytesOfRuns(t *testing.T) {
	whole := impl.RunBytes([]rec{{Key: "a", N: -2}, {Key: "ab", N: 1}, {Key: "ab", N: 1}, {Key: "b", N: 300}})
	accepted := 0
	for i := range len(whole) {
		for b := range 256 {
			changed := whole[:i] + string([]byte{byte(b)}) + whole[i+1:]
			l, ok := impl.ReadRun(changed)
			if !ok && len(l) == 0 {
				continue
			}
			accepted++
			if !ok || !impl.RunOk(l) || impl.RunBytes(l) != changed {
				t.Errorf("ReadRun(%q) = %s, %v", changed, show(l...), ok)
			}
		}
	}
	if accepted == 0 {
		t.Error("nothing is accepted")
	}
}

func TestRecordsMemory(t *testing.T) {
	unsorted := []rec{{Key: "b", N: 1}, {Key: "ab", N: -2}, {Key: "b", N: -1}, {Key: "ab", N: -2}}
	spare := rec{Key: "0", N: 7}
	for _, l := range [][]rec{unsorted, exampleRun(), nil, notRuns()[0]} {
		keeps(t, "RunOk", l, spare, func(l []rec) { impl.RunOk(l) })
		keeps(t, "Sorted", l, spare, func(l []rec) { impl.Sorted(l) })
		keeps(t, "KeysOf", l, spare, func(l []rec) { impl.KeysOf(l) })
		keeps(t, "FindRec", l, spare, func(l []rec) { impl.FindRec(l, "b") })
		keeps(t, "RunBytes", l, spare, func(l []rec) { impl.RunBytes(l) })
		keeps(t, "a write into the result of Sorted", l, spare, func(l []rec) {
			run := impl.Sorted(l)
			for i := range run {
				run[i] = rec{Key: "mark"}
			}
		})
	}
	mark := rec{Key: "mark"}
	fresh(t, "Sorted", mark, func() []rec { return impl.Sorted(unsorted) })
	fresh(t, "KeysOf", "mark", func() []string { return impl.KeysOf(exampleRun()) })
	fresh(t, "ReadRun", mark, func() []rec {
		l, _ := impl.ReadRun(impl.RunBytes(exampleRun()))
		return l
	})
}
