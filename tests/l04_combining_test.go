package tests

import (
	"math"
	"math/big"
	"math/rand"
	"slices"
	"testing"

	"loop.example/g00703/impl"
)

var ops = []int64{impl.CbSum, impl.CbMin, impl.CbMax, impl.CbCount}

// notOps are numbers that are no combining operations.
var notOps = []int64{0, -1, 5, 6, 1<<32 + 1, 256 + 1, math.MinInt64, math.MaxInt64}

var extremes = []int64{0, 1, -1, 2, -3, 1 << 32, -(1 << 32), 1 << 62, -(1 << 62), math.MaxInt64 - 1, math.MaxInt64, math.MinInt64 + 1, math.MinInt64}

// combination is the document's, by big numbers.
func combination(op int64, n ...int64) int64 {
	switch op {
	case impl.CbMin:
		return slices.Min(n)
	case impl.CbMax:
		return slices.Max(n)
	}
	sum := new(big.Int)
	for _, x := range n {
		sum.Add(sum, big.NewInt(x))
	}
	return numValue(sum).num.Int64()
}

// combined is the run that Combined returns, by a map of all N of each Key.
func combined(op int64, l []rec) []rec {
	all := map[string][]int64{}
	for _, r := range l {
		all[r.Key] = append(all[r.Key], r.N)
	}
	var run []rec
	for key, n := range all {
		run = append(run, rec{Key: key, N: combination(op, n...)})
	}
	return impl.Sorted(run)
}

// invalidRecs are lists with a record that is not valid, or with too many.
func invalidRecs() [][]rec {
	tooLong := rec{Key: longKey(41), N: 1}
	return [][]rec{
		{tooLong},
		{{Key: "a", N: 1}, tooLong},
		{tooLong, {Key: "a", N: 1}},
		{{Key: "b", N: 1}, tooLong, {Key: "a", N: 1}},
		append(manyRecs(599), tooLong),
		manyRecs(601),
		slices.Repeat([]rec{{Key: "a", N: 1}}, 601),
		make([]rec, 10000),
	}
}

// randomRecs returns n records of few Keys.
func randomRecs(random *rand.Rand, n int) []rec {
	keys := []string{"", "a", "b", "ab", "\xff", longKey(40)}
	l := make([]rec, n)
	for i := range l {
		l[i] = rec{Key: keys[random.Intn(len(keys))], N: extremes[random.Intn(len(extremes))]}
	}
	return l
}

func TestCombiningConstants(t *testing.T) {
	if impl.CbSum != 1 || impl.CbMin != 2 || impl.CbMax != 3 || impl.CbCount != 4 {
		t.Error("an op is not the document's")
	}
}

func TestCombine(t *testing.T) {
	for _, r := range []struct{ op, a, b, want int64 }{
		{impl.CbMin, -3, 2, -3},
		{impl.CbMin, 2, -3, -3},
		{impl.CbMax, -3, 2, 2},
		{impl.CbMax, 2, -3, 2},
		{impl.CbSum, -3, 2, -1},
		{impl.CbCount, 3, 4, 7},
		{impl.CbSum, math.MaxInt64, 1, math.MinInt64},
		{impl.CbSum, math.MinInt64, -1, math.MaxInt64},
		{impl.CbSum, math.MinInt64, math.MinInt64, 0},
		{impl.CbCount, math.MaxInt64, math.MaxInt64, -2},
		{impl.CbMin, math.MaxInt64, math.MinInt64, math.MinInt64},
		{impl.CbMax, math.MaxInt64, math.MinInt64, math.MaxInt64},
		{impl.CbMin, 5, 5, 5},
		{impl.CbMax, 5, 5, 5},
	} {
		if n := impl.Combine(r.op, r.a, r.b); n != r.want {
			t.Errorf("Combine(%d, %d, %d) = %d, not %d", r.op, r.a, r.b, n, r.want)
		}
	}
	for _, op := range notOps {
		if n := impl.Combine(op, 3, 4); n != 0 {
			t.Errorf("Combine(%d, 3, 4) = %d", op, n)
		}
	}
}

// Promise 4: combining is commutative.
func TestCombineIsCommutative(t *testing.T) {
	for _, op := range ops {
		for _, a := range extremes {
			for _, b := range extremes {
				n := impl.Combine(op, a, b)
				if n != combination(op, a, b) || n != impl.Combine(op, b, a) {
					t.Errorf("Combine(%d, %d, %d) = %d", op, a, b, n)
				}
				for _, c := range extremes {
					if impl.Combine(op, n, c) != impl.Combine(op, a, impl.Combine(op, b, c)) {
						t.Errorf("op %d depends on how %d, %d and %d are grouped", op, a, b, c)
					}
				}
			}
		}
	}
}

func TestLifted(t *testing.T) {
	l := []rec{{Key: "b", N: 4}, {Key: "a", N: 1}, {Key: "b", N: -2}, {Key: "", N: 0}, {Key: "b", N: 4}}
	once := []rec{{Key: "b", N: 1}, {Key: "a", N: 1}, {Key: "b", N: 1}, {Key: "", N: 1}, {Key: "b", N: 1}}
	for op, want := range map[int64][]rec{impl.CbSum: l, impl.CbMin: l, impl.CbMax: l, impl.CbCount: once} {
		if got := impl.Lifted(op, l); !slices.Equal(got, want) {
			t.Errorf("Lifted(%d) = %s", op, show(got...))
		}
		if got := impl.Lifted(op, nil); len(got) != 0 {
			t.Errorf("Lifted(%d) of no records = %s", op, show(got...))
		}
		if got := impl.Lifted(op, manyRecs(600)); len(got) != 600 {
			t.Errorf("Lifted(%d) of 600 records has %d", op, len(got))
		}
	}
	for _, r := range orderedRecs() {
		if got := impl.Lifted(impl.CbCount, []rec{r}); !slices.Equal(got, []rec{{Key: r.Key, N: 1}}) {
			t.Errorf("Lifted of %s = %s", show(r), show(got...))
		}
	}
}

func TestCombined(t *testing.T) {
	l := []rec{{Key: "b", N: 4}, {Key: "a", N: 1}, {Key: "b", N: -2}}
	for op, n := range map[int64]int64{impl.CbSum: 2, impl.CbMin: -2, impl.CbMax: 4, impl.CbCount: 2} {
		if got := impl.Combined(op, l); !slices.Equal(got, []rec{{Key: "a", N: 1}, {Key: "b", N: n}}) {
			t.Errorf("Combined(%d) = %s", op, show(got...))
		}
		if got := impl.Combined(op, nil); len(got) != 0 {
			t.Errorf("Combined(%d) of no records = %s", op, show(got...))
		}
	}
	for _, op := range ops {
		for _, n := range extremes {
			one := []rec{{Key: "k", N: n}}
			if got := impl.Combined(op, one); !slices.Equal(got, one) {
				t.Errorf("Combined(%d, %s) = %s", op, show(one...), show(got...))
			}
			for _, m := range extremes {
				two := []rec{{Key: "k", N: n}, {Key: "k", N: m}}
				if got := impl.Combined(op, two); !slices.Equal(got, []rec{{Key: "k", N: combination(op, n, m)}}) {
					t.Errorf("Combined(%d, %s) = %s", op, show(two...), show(got...))
				}
			}
			often := slices.Repeat([]rec{{Key: "k", N: n}}, 600)
			if got := impl.Combined(op, often); !slices.Equal(got, combined(op, often)) {
				t.Errorf("Combined(%d, %s) = %s", op, show(often...), show(got...))
			}
		}
		for _, l := range runs() {
			if got := impl.Combined(op, l); !slices.Equal(got, combined(op, l)) {
				t.Errorf("Combined(%d, %s) = %s", op, show(l...), show(got...))
			}
		}
	}
	// The numbers of CbCount are added, not replaced by 1.
	if got := impl.Combined(impl.CbCount, []rec{{Key: "a", N: 5}, {Key: "a", N: 7}, {Key: "b", N: 9}}); !slices.Equal(got, []rec{{Key: "a", N: 12}, {Key: "b", N: 9}}) {
		t.Errorf("%s", show(got...))
	}
}

func TestCombiningRejects(t *testing.T) {
	for _, op := range ops {
		for _, l := range invalidRecs() {
			if got := impl.Lifted(op, l); len(got) != 0 {
				t.Errorf("Lifted(%d, %s) = %s", op, show(l...), show(got...))
			}
			if got := impl.Combined(op, l); len(got) != 0 {
				t.Errorf("Combined(%d, %s) = %s", op, show(l...), show(got...))
			}
		}
	}
	for _, op := range notOps {
		for _, l := range append(runs(), invalidRecs()...) {
			if got := impl.Lifted(op, l); len(got) != 0 {
				t.Errorf("Lifted(%d, %s) = %s", op, show(l...), show(got...))
			}
			if got := impl.Combined(op, l); len(got) != 0 {
				t.Errorf("Combined(%d, %s) = %s", op, show(l...), show(got...))
			}
		}
	}
}

// Promise 4: combining the combinations of parts combines the whole.
func TestCombinedOfParts(t *testing.T) {
	random := rand.New(rand.NewSource(7))
	for range 500 {
		l := randomRecs(random, random.Intn(601))
		for _, op := range ops {
			whole := impl.Combined(op, l)
			if !impl.RunOk(whole) || !slices.Equal(whole, combined(op, l)) {
				t.Fatalf("Combined(%d, %s) = %s", op, show(l...), show(whole...))
			}
			var parts []rec
			for from := 0; from < len(l); {
				to := from + 1 + random.Intn(len(l)-from)
				parts = append(parts, impl.Combined(op, l[from:to])...)
				from = to
			}
			if got := impl.Combined(op, parts); !slices.Equal(got, whole) {
				t.Fatalf("Combined(%d) of the combinations of parts of %s = %s, not %s", op, show(l...), show(got...), show(whole...))
			}
			mixed := slices.Clone(l)
			random.Shuffle(len(mixed), func(i, j int) { mixed[i], mixed[j] = mixed[j], mixed[i] })
			if got := impl.Combined(op, mixed); !slices.Equal(got, whole) {
				t.Fatalf("Combined(%d) of %s depends on the order: %s, not %s", op, show(l...), show(got...), show(whole...))
			}
		}
	}
}

func TestMergeRuns(t *testing.T) {
	got, ok := impl.MergeRuns([]rec{{Key: "a", N: 5}, {Key: "c", N: 0}}, []rec{{Key: "a", N: 4}, {Key: "b", N: 0}})
	if !ok || !slices.Equal(got, []rec{{Key: "a", N: 4}, {Key: "a", N: 5}, {Key: "b", N: 0}, {Key: "c", N: 0}}) {
		t.Errorf("%s, %v", show(got...), ok)
	}
	for _, a := range runs() {
		for _, b := range runs() {
			got, ok := impl.MergeRuns(a, b)
			if fits := len(a)+len(b) <= 600; ok != fits || !fits && len(got) != 0 {
				t.Errorf("MergeRuns(%s, %s) = %s, %v", show(a...), show(b...), show(got...), ok)
			}
			if ok && !slices.Equal(got, impl.Sorted(slices.Concat(a, b))) {
				t.Errorf("MergeRuns(%s, %s) = %s", show(a...), show(b...), show(got...))
			}
		}
	}
	for n := range 4 {
		if got, ok := impl.MergeRuns(manyRecs(600-n), manyRecs(n)); !ok || len(got) != 600 {
			t.Errorf("600 records in all: %d, %v", len(got), ok)
		}
		if got, ok := impl.MergeRuns(manyRecs(n), manyRecs(601-n)); ok || len(got) != 0 {
			t.Errorf("601 records in all: %d, %v", len(got), ok)
		}
	}
}

func TestMergeRejects(t *testing.T) {
	for _, bad := range notRuns() {
		for _, good := range [][]rec{nil, {{Key: "a", N: 1}}, exampleRun()} {
			if got, ok := impl.MergeRuns(bad, good); ok || len(got) != 0 {
				t.Errorf("MergeRuns(%s, %s) = %s, %v", show(bad...), show(good...), show(got...), ok)
			}
			if got, ok := impl.MergeRuns(good, bad); ok || len(got) != 0 {
				t.Errorf("MergeRuns(%s, %s) = %s, %v", show(good...), show(bad...), show(got...), ok)
			}
			for _, l := range [][][]rec{{bad}, {bad, good}, {good, bad}, {good, bad, good}, {good, good, bad}, {bad, bad}} {
				if got, ok := impl.MergeAll(l); ok || len(got) != 0 {
					t.Errorf("MergeAll with %s = %s, %v", show(bad...), show(got...), ok)
				}
			}
		}
	}
}

func TestMergeAll(t *testing.T) {
	for _, l := range [][][]rec{nil, {}, {nil}, {nil, {}, nil}, make([][]rec, 10000)} {
		if got, ok := impl.MergeAll(l); !ok || len(got) != 0 {
			t.Errorf("MergeAll of %d empty runs = %s, %v", len(l), show(got...), ok)
		}
	}
	for _, run := range runs() {
		if got, ok := impl.MergeAll([][]rec{run}); !ok || !slices.Equal(got, run) {
			t.Errorf("MergeAll of %s alone = %s, %v", show(run...), show(got...), ok)
		}
	}
	random := rand.New(rand.NewSource(8))
	for range 300 {
		var l [][]rec
		var all []rec
		for range random.Intn(7) {
			run := impl.Sorted(randomRecs(random, random.Intn(201)))
			l = append(l, run)
			all = append(all, run...)
		}
		got, ok := impl.MergeAll(l)
		if fits := len(all) <= 600; ok != fits || !slices.Equal(got, impl.Sorted(all)) {
			t.Fatalf("MergeAll of %d records = %s, %v", len(all), show(got...), ok)
		}
	}
	single := make([][]rec, 601)
	for i := range single {
		single[i] = []rec{{Key: "a", N: int64(-i)}}
	}
	if got, ok := impl.MergeAll(single[:600]); !ok || len(got) != 600 || !impl.RunOk(got) || got[0].N != -599 {
		t.Errorf("600 runs of one record: %s, %v", show(got...), ok)
	}
	for _, l := range [][][]rec{single, {manyRecs(600), {{Key: "a", N: 1}}}, {{{Key: "a", N: 1}}, manyRecs(600)}, {manyRecs(200), manyRecs(200), manyRecs(201)}, {manyRecs(600), nil, manyRecs(600)}} {
		if got, ok := impl.MergeAll(l); ok || len(got) != 0 {
			t.Errorf("MergeAll of more than 600 records = %s, %v", show(got...), ok)
		}
	}
}

func TestCombiningMemory(t *testing.T) {
	spare, mark := rec{Key: "0", N: 7}, rec{Key: "mark"}
	write := func(l []rec) {
		for i := range l {
			l[i] = mark
		}
	}
	unsorted := []rec{{Key: "b", N: 4}, {Key: "a", N: 1}, {Key: "b", N: -2}}
	for _, l := range [][]rec{unsorted, exampleRun(), {{Key: "a", N: 2}}, nil, invalidRecs()[3]} {
		for _, op := range append(ops, 0) {
			keeps(t, "Lifted", l, spare, func(l []rec) { write(impl.Lifted(op, l)) })
			keeps(t, "Combined", l, spare, func(l []rec) { write(impl.Combined(op, l)) })
		}
		for _, other := range [][]rec{nil, {{Key: "aa", N: 3}}} {
			merge := func(l ...[]rec) {
				got, _ := impl.MergeRuns(l[0], l[1])
				write(got)
				got, _ = impl.MergeAll(l)
				write(got)
				got, _ = impl.MergeAll(l[:1])
				write(got)
			}
			keeps(t, "a merge", l, spare, func(l []rec) { merge(l, other) })
			keeps(t, "a merge", l, spare, func(l []rec) { merge(other, l) })
		}
	}
	runs := [][]rec{{{Key: "a", N: 5}}, {{Key: "a", N: 4}}, {{Key: "b", N: 0}}}
	before := slices.Clone(runs)
	impl.MergeAll(runs[:2])
	for i := range runs {
		if &runs[i][0] != &before[i][0] || len(runs[i]) != 1 {
			t.Errorf("MergeAll modified its list of runs")
		}
	}
	for _, op := range ops {
		fresh(t, "Lifted", mark, func() []rec { return impl.Lifted(op, unsorted) })
		fresh(t, "Combined", mark, func() []rec { return impl.Combined(op, unsorted) })
	}
	fresh(t, "MergeRuns", mark, func() []rec {
		l, _ := impl.MergeRuns(runs[0], runs[1])
		return l
	})
	fresh(t, "MergeAll", mark, func() []rec {
		l, _ := impl.MergeAll(runs)
		return l
	})
}
