package tests

import (
	"fmt"
	"math"
	"math/rand"
	"slices"
	"strings"
	"testing"

	"loop.example/g00703/impl"
)

type result = impl.Result

const exampleJob = "job count 1 each\nf0 n7 emit\nsplit 2\nthe cat the\n\nsplit 1\ncat\n"

// sameRuns reports whether two lists of runs are equal; nil and empty are.
func sameRuns(a, b [][]rec) bool { return slices.EqualFunc(a, b, slices.Equal) }

func sameResult(a, b result) bool {
	return a.Done == b.Done && a.Failed == b.Failed && a.Task == b.Task && sameRuns(a.Out, b.Out)
}

// showRuns is what a test prints of runs.
func showRuns(l [][]rec) string {
	var texts []string
	for _, run := range l {
		texts = append(texts, show(run...))
	}
	return strings.Join(texts, " | ")
}

// mapModel is the document's MapOf of a valid job and a split that it has,
// by a map of all numbers of each Key.
func mapModel(j job, t int) ([][]rec, int64) {
	lines := strings.SplitAfter(j.Splits[t], "\n")
	count := 0
	numbers := map[string][]int64{}
	for _, line := range lines[:len(lines)-1] {
		l, code := impl.EvalLine(j.Prog, j.Each, strings.TrimSuffix(line, "\n"))
		if code != impl.EvOk {
			return nil, code
		}
		count += len(l)
		for _, r := range l {
			if j.Op == impl.CbCount {
				r.N = 1
			}
			numbers[r.Key] = append(numbers[r.Key], r.N)
		}
	}
	if count > 600 {
		return nil, 3
	}
	return runsOf(j, numbers), impl.EvOk
}

// runsOf returns a run for each part, of the combinations of all numbers.
func runsOf(j job, numbers map[string][]int64) [][]rec {
	runs := make([][]rec, j.Parts)
	for key, n := range numbers {
		part := impl.HashOf(key) % j.Parts
		runs[part] = append(runs[part], rec{Key: key, N: combination(j.Op, n...)})
	}
	for part := range runs {
		runs[part] = impl.Sorted(runs[part])
	}
	return runs
}

// reduceModel is the document's ReduceOf of a valid job and a part of it.
func reduceModel(j job, p int64) ([]rec, int64) {
	count := 0
	numbers := map[string][]int64{}
	for t := range j.Splits {
		runs, code := mapModel(j, t)
		if code != impl.EvOk {
			return nil, code
		}
		count += len(runs[p])
		for _, r := range runs[p] {
			numbers[r.Key] = append(numbers[r.Key], r.N)
		}
	}
	if count > 600 {
		return nil, 3
	}
	return runsOf(j, numbers)[p], impl.EvOk
}

// resultModel is the document's ResultOf of a valid job.
func resultModel(j job) result {
	for t := range j.Splits {
		if _, code := mapModel(j, t); code != impl.EvOk {
			return result{Failed: true, Task: int64(t)}
		}
	}
	r := result{Done: true}
	for p := range j.Parts {
		run, code := reduceModel(j, p)
		if code != impl.EvOk {
			return result{Failed: true, Task: int64(len(j.Splits)) + p}
		}
		r.Out = append(r.Out, run)
	}
	return r
}

// yields fails if a function returns for a valid job what the models do not.
func yields(t *testing.T, j job) result {
	t.Helper()
	isJob(t, j)
	for split := range j.Splits {
		want, wantCode := mapModel(j, split)
		if runs, code := impl.MapOf(j, int64(split)); code != wantCode || !sameRuns(runs, want) {
			t.Fatalf("MapOf(%.500q, %d) = %s, %d, not %s, %d", jobText(j), split, showRuns(runs), code, showRuns(want), wantCode)
		}
	}
	for p := range j.Parts {
		want, wantCode := reduceModel(j, p)
		if run, code := impl.ReduceOf(j, p); code != wantCode || !slices.Equal(run, want) {
			t.Fatalf("ReduceOf(%.500q, %d) = %s, %d, not %s, %d", jobText(j), p, show(run...), code, show(want...), wantCode)
		}
	}
	r, want := impl.ResultOf(j), resultModel(j)
	if !sameResult(r, want) {
		t.Fatalf("ResultOf(%.500q) = %v, not %v", jobText(j), r, want)
	}
	return r
}

// yieldsDone fails if the result of a job is not these runs.
func yieldsDone(t *testing.T, text string, out ...[]rec) {
	t.Helper()
	if r := yields(t, readJob(t, text)); !sameResult(r, result{Done: true, Out: out}) {
		t.Errorf("ResultOf(%.500q) = %v", text, r)
	}
}

// yieldsFailed fails if the first failing task of a job is another one, or
// has another code.
func yieldsFailed(t *testing.T, j job, task int64, code int64) {
	t.Helper()
	if r := yields(t, j); !sameResult(r, result{Failed: true, Task: task}) {
		t.Errorf("ResultOf(%.500q) = %v, not Failed with task %d", jobText(j), r, task)
	}
	part := max(task-int64(len(j.Splits)), 0)
	if run, got := impl.ReduceOf(j, part); got != code || len(run) != 0 {
		t.Errorf("ReduceOf(%.500q, %d) = %s, %d, not %d", jobText(j), part, show(run...), got, code)
	}
	if int(task) >= len(j.Splits) {
		return
	}
	if runs, got := impl.MapOf(j, task); got != code || len(runs) != 0 {
		t.Errorf("MapOf(%.500q, %d) = %s, %d, not %d", jobText(j), task, showRuns(runs), got, code)
	}
}

// answers are the numbers of all keys in a result.
func answers(r result) map[string]int64 {
	numbers := map[string]int64{}
	for _, run := range r.Out {
		for _, x := range run {
			numbers[x.Key] = x.N
		}
	}
	return numbers
}

// orders returns l in each order.
func orders(l []string) [][]string {
	if len(l) == 0 {
		return [][]string{nil}
	}
	var all [][]string
	for i := range l {
		for _, others := range orders(slices.Delete(slices.Clone(l), i, i+1)) {
			all = append(all, append([]string{l[i]}, others...))
		}
	}
	return all
}

// splitOf returns a split of these words, 20 in each line.
func splitOf(words []string) string {
	split := ""
	for line := range slices.Chunk(words, 20) {
		split += strings.Join(line, " ") + "\n"
	}
	return split
}

// wordsJob is a job with these words in its splits, whose program emits one
// record for each word.
func wordsJob(op, parts int64, splits ...[]string) job {
	j := job{Prog: anyProg("f0 n1 emit"), Each: true, Op: op, Parts: parts}
	for _, words := range splits {
		j.Splits = append(j.Splits, splitOf(words))
	}
	return j
}

// threeJob is a job whose program emits three records for each word w, with
// the Keys "w", ".w" and ",w".
func threeJob(op, parts int64, splits ...[]string) job {
	j := wordsJob(op, parts, splits...)
	j.Prog = anyProg("f0 n1 emit t:. f0 cat n2 emit t:, f0 cat n3 emit")
	return j
}

// wordsIn returns the first n words w0, w1 .. of which the three Keys belong
// to a part.
func wordsIn(part, parts int64, n int) []string {
	var words []string
	for i := 0; len(words) < n; i++ {
		word := fmt.Sprint("w", i)
		if impl.HashOf(word)%parts == part && impl.HashOf("."+word)%parts == part && impl.HashOf(","+word)%parts == part {
			words = append(words, word)
		}
	}
	return words
}

func TestResultConstants(t *testing.T) {
	if impl.EvMany != 3 {
		t.Error("EvMany is not the document's")
	}
}

func TestResultExamples(t *testing.T) {
	j := readJob(t, exampleJob)
	runs, code := impl.MapOf(j, 0)
	if code != impl.EvOk || !sameRuns(runs, [][]rec{{{Key: "cat", N: 1}, {Key: "the", N: 2}}}) {
		t.Errorf("MapOf = %s, %d", showRuns(runs), code)
	}
	run, code := impl.ReduceOf(j, 0)
	if code != impl.EvOk || !slices.Equal(run, []rec{{Key: "cat", N: 2}, {Key: "the", N: 2}}) {
		t.Errorf("ReduceOf = %s, %d", show(run...), code)
	}
	r := impl.ResultOf(j)
	if n, ok := impl.AnswerOf(r, "the"); !ok || n != 2 {
		t.Errorf("AnswerOf = %d, %v", n, ok)
	}
	yieldsDone(t, exampleJob, []rec{{Key: "cat", N: 2}, {Key: "the", N: 2}})
	yieldsFailed(t, readJob(t, "job sum 2 each\nf0 f0 cat n1 emit\nsplit 1\na\nsplit 2\nb\na "+longKey(21)+" b\n"), 1, impl.EvLong)
}

// succeeds fails if the job fails.
func succeeds(t *testing.T, j job) result {
	t.Helper()
	r := yields(t, j)
	if !r.Done || int64(len(r.Out)) != j.Parts {
		t.Errorf("ResultOf(%.500q) = %v", jobText(j), r)
	}
	return r
}

func TestMapLimit(t *testing.T) {
	// Three records for a word, and four for x.
	p := anyProg("f0 n1 emit f0 n2 emit f0 n3 emit f0 n4 f0 t:x same emitif")
	words := func(n, x int) string {
		return splitOf(append(slices.Repeat([]string{"k"}, n), slices.Repeat([]string{"x"}, x)...))
	}
	for op := range opNames {
		for parts := int64(1); parts <= 3; parts++ {
			j := job{Prog: p, Each: true, Op: op, Parts: parts, Splits: []string{words(3, 1), words(200, 0)}}
			succeeds(t, j)
			j.Splits[1] = words(199, 1)
			yieldsFailed(t, j, 1, 3)
			j.Splits[1] = words(0, 200)
			yieldsFailed(t, j, 1, 3)
			slices.Reverse(j.Splits)
			yieldsFailed(t, j, 0, 3)
		}
	}
	// The records of all parts count together.
	four := wordsJob(impl.CbSum, 3, wordsIn(0, 1, 150))
	four.Prog = anyProg("f0 n1 emit t:. f0 cat n2 emit t:, f0 cat n3 emit t:; f0 cat n4 emit")
	succeeds(t, four)
	four.Splits[0] = splitOf(wordsIn(0, 1, 151))
	yieldsFailed(t, four, 0, 3)
}

func TestReduceLimit(t *testing.T) {
	for op := range opNames {
		for parts := int64(1); parts <= 3; parts++ {
			for part := range parts {
				words := wordsIn(part, parts, 601)
				other := wordsIn((part+1)%parts, parts, 1)
				split := func(from, to int) []string { return words[from:to] }
				if parts > 1 {
					succeeds(t, wordsJob(op, parts, split(0, 200), split(200, 400), split(400, 600), other))
				}
				succeeds(t, wordsJob(op, parts, split(0, 200), split(200, 400), split(400, 599), split(599, 600)))
				yieldsFailed(t, wordsJob(op, parts, split(0, 200), split(200, 400), split(400, 600), split(600, 601)), 4+part, 3)
				yieldsFailed(t, wordsJob(op, parts, split(0, 1), split(200, 400), split(400, 600), split(0, 200)), 4+part, 3)
				// A key counts once for each split in which it occurs.
				same := split(0, 150)
				r := succeeds(t, wordsJob(op, parts, same, same, same, slices.Concat(same, same[:50])))
				if len(r.Out[part]) != 150 {
					t.Errorf("%d records", len(r.Out[part]))
				}
				yieldsFailed(t, wordsJob(op, parts, split(0, 151), same, same, same), 4+part, 3)
				yieldsFailed(t, wordsJob(op, parts, same, same, same, split(1, 152)), 4+part, 3)
			}
		}
	}
	// 600 records in one split, none or one in the others.
	full := wordsIn(0, 1, 200)
	succeeds(t, threeJob(impl.CbMax, 1, full, nil, nil, nil))
	yieldsFailed(t, threeJob(impl.CbMax, 1, nil, full, nil, full[:1]), 4, 3)
	succeeds(t, threeJob(impl.CbMax, 1, full[:100], full[100:]))
	yieldsFailed(t, threeJob(impl.CbMax, 1, full[:100], full[99:]), 2, 3)
}

// threeOf returns the words of four splits, in each of which there are as many
// words of each of three parts as n says; more than 50 are too many records.
func threeOf(n ...int) (splits [][]string) {
	var words []string
	for part, n := range n {
		words = append(words, wordsIn(int64(part), 3, n)...)
	}
	return [][]string{words, words, words, words}
}

func TestFirstFailingReduceTask(t *testing.T) {
	succeeds(t, threeJob(impl.CbCount, 3, threeOf(50, 50, 50)...))
	for _, r := range []struct {
		n    []int
		task int64
	}{
		{[]int{66, 66, 66}, 4},
		{[]int{51, 50, 51}, 4},
		{[]int{50, 66, 66}, 5},
		{[]int{0, 51, 51}, 5},
		{[]int{50, 51, 0}, 5},
		{[]int{50, 50, 51}, 6},
		{[]int{0, 0, 66}, 6},
	} {
		j := threeJob(impl.CbMin, 3, threeOf(r.n...)...)
		yieldsFailed(t, j, r.task, 3)
		for p := range int64(3) {
			want := int64(impl.EvOk)
			if r.n[p] > 50 {
				want = 3
			}
			if run, code := impl.ReduceOf(j, p); code != want || want == 3 && len(run) != 0 || want == impl.EvOk && len(run) != 3*r.n[p] {
				t.Errorf("ReduceOf with %v words, part %d: %d records, %d", r.n, p, len(run), code)
			}
		}
		// A map task that fails comes before, even if it is the last one.
		j.Splits[3] = strings.TrimSuffix(j.Splits[3], "\n") + " " + longKey(41) + "\n"
		yieldsFailed(t, j, 3, impl.EvLong)
		for p := range int64(3) {
			if run, code := impl.ReduceOf(j, p); code != impl.EvLong || len(run) != 0 {
				t.Errorf("ReduceOf of part %d = %s, %d", p, show(run...), code)
			}
		}
	}
}

func TestFirstFailingMapTask(t *testing.T) {
	good, long := "a b\n", longKey(41)
	many := splitOf(slices.Repeat([]string{"k"}, 200))
	p := anyProg("f0 n1 emit f0 n2 emit f0 n3 emit f0 n4 emit")
	for _, r := range []struct {
		splits []string
		task   int64
		code   int64
	}{
		{[]string{long + "\n"}, 0, impl.EvLong},
		{[]string{long + " a\n", good}, 0, impl.EvLong},
		{[]string{"a " + long + "\n", good}, 0, impl.EvLong},
		{[]string{"a\n\nb " + long + " c\n\n", good}, 0, impl.EvLong},
		{[]string{good, strings.Repeat("\n", 9) + long + "\n"}, 1, impl.EvLong},
		{[]string{good, "", long + "\n", good}, 2, impl.EvLong},
		{[]string{good, "", good, long + "\n"}, 3, impl.EvLong},
		{[]string{good, long + "\n", long + "\n", good}, 1, impl.EvLong},
		{[]string{many, long + "\n"}, 0, 3},
		{[]string{long + "\n", many}, 0, impl.EvLong},
		{[]string{good, many, many, long + "\n"}, 1, 3},
		{[]string{good, long + "\n", many, good}, 1, impl.EvLong},
		// The code of the last line comes before the number of records.
		{[]string{good, strings.Replace(many, "k\n", long+"\n", 1)}, 1, impl.EvLong},
		{[]string{good, many[:len(many)-2] + long + "\n"}, 1, impl.EvLong},
	} {
		for parts := int64(1); parts <= 3; parts++ {
			j := job{Prog: p, Each: true, Op: impl.CbMax, Parts: parts, Splits: r.splits}
			yieldsFailed(t, j, r.task, r.code)
			for part := range parts {
				if run, code := impl.ReduceOf(j, part); code != r.code || len(run) != 0 {
					t.Errorf("ReduceOf(%.500q, %d) = %s, %d", r.splits, part, show(run...), code)
				}
			}
		}
	}
	// Without each, only the first word of a line is looked at here.
	j := job{Prog: p, Op: impl.CbMax, Parts: 1, Splits: []string{"a " + long + "\n"}}
	succeeds(t, j)
	j.Splits = append(j.Splits, "a\n"+long+" a\n")
	yieldsFailed(t, j, 1, impl.EvLong)
}

func TestEmptyResults(t *testing.T) {
	for op := range opNames {
		for parts := int64(1); parts <= 3; parts++ {
			for _, j := range []job{
				{Prog: anyProg("f0 n1 emit"), Splits: []string{""}},
				{Prog: anyProg("f0 n1 emit"), Splits: []string{"", "", "", ""}},
				{Prog: anyProg("f0 n1 emit"), Each: true, Splits: []string{"\n", "", " \n  \n"}},
				{Prog: anyProg("f0 n1 n0 emitif"), Splits: []string{"a\n", "", "b\n"}},
				{Splits: []string{"a b\n", "", strings.Repeat("\n", 10)}},
				{Each: true, Splits: []string{"a b\n", longKey(41) + "\n"}},
			} {
				j.Op, j.Parts = op, parts
				r := succeeds(t, j)
				if len(answers(r)) != 0 {
					t.Errorf("ResultOf(%q) = %v", jobText(j), r)
				}
				for split := range j.Splits {
					if runs, code := impl.MapOf(j, int64(split)); code != impl.EvOk || len(runs) != int(parts) {
						t.Errorf("MapOf(%q, %d) = %s, %d", jobText(j), split, showRuns(runs), code)
					}
				}
			}
		}
	}
	// Without each, a line without words yields what the program emits.
	yieldsDone(t, "job sum 1 line\nf0 n1 emit\nsplit 2\n\n  \nsplit 1\na\n", []rec{{Key: "", N: 2}, {Key: "a", N: 1}})
	yieldsDone(t, "job sum 1 each\nf0 n1 emit\nsplit 2\n\n  \nsplit 1\na\n", []rec{{Key: "a", N: 1}})
}

func TestResultsOfOps(t *testing.T) {
	splits := "split 3\na 5\nb 3\na 5\nsplit 0\nsplit 3\nb -4\na 7\nb -4\nsplit 1\nc 0\n"
	for op, numbers := range map[string][]int64{"sum": {17, -5, 0}, "min": {5, -4, 0}, "max": {7, 3, 0}, "count": {3, 3, 1}} {
		want := []rec{{Key: "a", N: numbers[0]}, {Key: "b", N: numbers[1]}, {Key: "c", N: numbers[2]}}
		yieldsDone(t, "job "+op+" 1 line\nf0 f1 int emit\n"+splits, want)
		for _, parts := range []int64{2, 3} {
			out := make([][]rec, parts)
			for _, r := range want {
				part := impl.HashOf(r.Key) % parts
				out[part] = append(out[part], r)
			}
			yieldsDone(t, fmt.Sprint("job ", op, " ", parts, " line\nf0 f1 int emit\n", splits), out...)
		}
	}
	// The sum wraps around, in a map task and in a reduce task.
	big := "9223372036854775807"
	yieldsDone(t, "job sum 1 line\nt:k f0 int emit\nsplit 2\n"+big+"\n1\nsplit 1\n-1\n", []rec{{Key: "k", N: math.MaxInt64}})
	yieldsDone(t, "job sum 1 line\nt:k f0 int emit\nsplit 1\n"+big+"\nsplit 1\n"+big+"\n", []rec{{Key: "k", N: -2}})
}

// The reduce task adds the numbers of CbCount: with 1 for each split, the
// numbers here would be 2 and 1.
func TestCountsAreAdded(t *testing.T) {
	text := "job count 1 each\nf0 n7 emit\nsplit 2\na a a\na b\nsplit 1\na c a\n"
	yieldsDone(t, text, []rec{{Key: "a", N: 6}, {Key: "b", N: 1}, {Key: "c", N: 1}})
	j := readJob(t, text)
	if runs, code := impl.MapOf(j, 0); code != impl.EvOk || !sameRuns(runs, [][]rec{{{Key: "a", N: 4}, {Key: "b", N: 1}}}) {
		t.Errorf("MapOf = %s, %d", showRuns(runs), code)
	}
}

func TestResultsReject(t *testing.T) {
	numbers := []int64{-1, -2, 4, 5, 256, 1 << 32, math.MinInt64, math.MaxInt64}
	j := job{Prog: anyProg("f0 n1 emit"), Op: impl.CbSum, Parts: 3, Splits: []string{"a\n", "b\n", "c\n", "d\n"}}
	succeeds(t, j)
	lacks := func(name string, j job, t0, p0 []int64) {
		for _, n := range t0 {
			if runs, code := impl.MapOf(j, n); code != impl.EvForm || len(runs) != 0 {
				t.Errorf("%s: MapOf of %d = %s, %d", name, n, showRuns(runs), code)
			}
		}
		for _, p := range p0 {
			if run, code := impl.ReduceOf(j, p); code != impl.EvForm || len(run) != 0 {
				t.Errorf("%s: ReduceOf of %d = %s, %d", name, p, show(run...), code)
			}
		}
	}
	lacks("a valid job", j, numbers, append(numbers, 3))
	// A part that does not exist is noticed before a task that fails.
	j.Splits[0] = longKey(41) + "\n"
	lacks("a job that fails", j, numbers, append(numbers, 3))
	j.Splits, j.Parts = j.Splits[:1], 1
	lacks("a job with one split", j, append(numbers, 1, 2, 3), append(numbers, 1, 2, 3))
	for name, j := range badJobs() {
		lacks(name, j, append(numbers, 0, 1, 2, 3), append(numbers, 0, 1, 2, 3))
		if r := impl.ResultOf(j); !sameResult(r, result{}) {
			t.Errorf("%s: ResultOf = %v", name, r)
		}
	}
}

// Promise 6, for jobs of all kinds: for every number of parts and every order
// of its splits, the numbers are the same, or the first failing task is the
// one that the model finds.
func TestPartsAndOrders(t *testing.T) {
	random := rand.New(rand.NewSource(10))
	done, failed := 0, 0
	for range 150 {
		j := randomJob(random)
		first := impl.ResultOf(j)
		for parts := int64(1); parts <= 3; parts++ {
			for _, splits := range orders(j.Splits) {
				other := j
				other.Parts, other.Splits = parts, splits
				r := yields(t, other)
				if r.Done != first.Done {
					t.Fatalf("ResultOf(%q) = %v, ResultOf(%q) = %v", jobText(j), first, jobText(other), r)
				}
				if fmt.Sprint(answers(r)) != fmt.Sprint(answers(first)) {
					t.Fatalf("ResultOf(%q) = %v, ResultOf(%q) = %v", jobText(j), first, jobText(other), r)
				}
				answered(t, r)
			}
		}
		if first.Done {
			done++
		} else {
			failed++
		}
	}
	if done < 20 || failed < 20 {
		t.Errorf("%d jobs succeed, %d fail", done, failed)
	}
}

// Promise 6: a job that fails does so with its first failing task, wherever
// the splits that fail are.
func TestOrdersOfFailures(t *testing.T) {
	fails := map[string]bool{"a\n": false, "": false, longKey(41) + "\n": true, "b " + longKey(50) + "\n": true}
	var splits []string
	for split := range fails {
		splits = append(splits, split)
	}
	for _, l := range orders(splits) {
		for parts := int64(1); parts <= 3; parts++ {
			task := slices.IndexFunc(l, func(split string) bool { return fails[split] })
			yieldsFailed(t, job{Prog: anyProg("f0 n1 emit"), Each: true, Op: impl.CbSum, Parts: parts, Splits: l}, int64(task), impl.EvLong)
		}
	}
}

// answered fails if AnswerOf does not find exactly the keys of a result.
func answered(t *testing.T, r result) {
	t.Helper()
	numbers := answers(r)
	for key, want := range numbers {
		if n, ok := impl.AnswerOf(r, key); !ok || n != want {
			t.Errorf("AnswerOf(%v, %q) = %d, %v, not %d", r, key, n, ok, want)
		}
	}
	for _, key := range []string{"", "\x00", "zzz", "a", "aa", longKey(40), longKey(41)} {
		if _, is := numbers[key]; is {
			continue
		}
		if n, ok := impl.AnswerOf(r, key); ok || n != 0 {
			t.Errorf("AnswerOf(%v, %q) = %d, %v", r, key, n, ok)
		}
	}
}

func TestAnswerOf(t *testing.T) {
	r := result{Done: true, Out: [][]rec{nil, {{Key: "", N: 9}, {Key: "b", N: -2}, {Key: "b", N: 3}}, {{Key: "a", N: 1}, {Key: "b", N: -5}}, {}}}
	for key, want := range map[string]int64{"": 9, "b": -2, "a": 1} {
		if n, ok := impl.AnswerOf(r, key); !ok || n != want {
			t.Errorf("AnswerOf(%q) = %d, %v", key, n, ok)
		}
	}
	for _, key := range []string{"c", "B", "ab", "bb", "\x00", longKey(41)} {
		if n, ok := impl.AnswerOf(r, key); ok || n != 0 {
			t.Errorf("AnswerOf(%q) = %d, %v", key, n, ok)
		}
	}
	for _, r := range []result{{}, {Failed: true, Task: 2}, {Done: true}, {Done: true, Out: make([][]rec, 3)}} {
		for _, key := range []string{"", "a"} {
			if n, ok := impl.AnswerOf(r, key); ok || n != 0 {
				t.Errorf("AnswerOf(%v, %q) = %d, %v", r, key, n, ok)
			}
		}
	}
	// Only runs are searched.
	bad := result{Done: true, Out: append(notRuns(), []rec{{Key: "zz", N: 4}})}
	for _, run := range notRuns() {
		for _, r := range run {
			if n, ok := impl.AnswerOf(bad, r.Key); ok || n != 0 {
				t.Errorf("AnswerOf(%q) = %d, %v", r.Key, n, ok)
			}
		}
	}
	if n, ok := impl.AnswerOf(bad, "zz"); !ok || n != 4 {
		t.Errorf("AnswerOf = %d, %v", n, ok)
	}
}

// Promise 15: which split is mapped first is not visible in a result.
func TestResultsAreRepeated(t *testing.T) {
	long := longKey(41) + "\n"
	full := wordsIn(0, 1, 200)
	done := threeJob(impl.CbSum, 2, full[:50], full[20:70], full[:10], full[5:60])
	failing := threeJob(impl.CbSum, 3, full, full, nil, nil)
	failing.Splits[2], failing.Splits[3] = long, long
	for _, j := range []job{done, failing} {
		first := yields(t, j)
		run, code := impl.ReduceOf(j, 1)
		for range 200 {
			if r := impl.ResultOf(j); !sameResult(r, first) {
				t.Fatalf("ResultOf returns %v and %v", first, r)
			}
			if other, k := impl.ReduceOf(j, 1); k != code || !slices.Equal(other, run) {
				t.Fatalf("ReduceOf returns %s and %s", show(run...), show(other...))
			}
		}
	}
}

func TestResultsMemory(t *testing.T) {
	mark := rec{Key: "mark"}
	write := func(l ...[]rec) {
		for _, run := range l {
			for i := range run[:cap(run)] {
				run[:cap(run)][i] = mark
			}
		}
	}
	use := func(j job) {
		runs, _ := impl.MapOf(j, 0)
		write(runs...)
		run, _ := impl.ReduceOf(j, 0)
		write(run)
		write(impl.ResultOf(j).Out...)
	}
	jobs := []job{readJob(t, exampleJob), readJob(t, "job max 3 line\nf0 f1 int emit\nsplit 2\na 5\nb 3\nsplit 0\nsplit 1\na 4\n"), readJob(t, "job sum 2 each\nf0 n1 emit\nsplit 1\n"+longKey(41)+"\n"), {}, badJobs()["op 0"]}
	for _, j := range jobs {
		keepsJob(t, j, use)
	}
	r := result{Done: true, Out: [][]rec{{{Key: "a", N: 5}}, {{Key: "a", N: 4}, {Key: "b", N: 0}}}}
	keeps(t, "AnswerOf", r.Out[1], mark, func(l []rec) { impl.AnswerOf(result{Done: true, Out: [][]rec{r.Out[0], l}}, "b") })
	j := threeJob(impl.CbSum, 3, wordsIn(0, 1, 30), wordsIn(0, 1, 20))
	for _, list := range []func() [][]rec{
		func() [][]rec {
			runs, _ := impl.MapOf(j, 0)
			return runs
		},
		func() [][]rec { return impl.ResultOf(j).Out },
	} {
		runs, before := list(), list()
		for i := range runs {
			write(runs[i])
			for other := i + 1; other < len(runs); other++ {
				if !slices.Equal(runs[other], before[other]) {
					t.Errorf("runs %d and %d share memory", i, other)
				}
			}
		}
		if !sameRuns(list(), before) {
			t.Error("a write into a result changes another one")
		}
	}
	fresh(t, "ReduceOf", mark, func() []rec {
		run, _ := impl.ReduceOf(j, 1)
		return run
	})
}
