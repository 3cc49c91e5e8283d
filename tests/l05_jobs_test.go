package tests

import (
	"fmt"
	"math"
	"math/rand"
	"slices"
	"strings"
	"testing"

	"loop.example/g00703/impl"
)

type job = impl.Job

var opNames = map[int64]string{impl.CbSum: "sum", impl.CbMin: "min", impl.CbMax: "max", impl.CbCount: "count"}

// readJob returns the job with a text.
func readJob(t *testing.T, text string) job {
	t.Helper()
	j, ok := impl.ReadJob(text)
	if !ok {
		t.Fatalf("ReadJob(%.300q) is false", text)
	}
	return j
}

// sameJob reports whether two jobs are equal; nil and empty lists are.
func sameJob(a, b job) bool {
	return slices.Equal(a.Prog, b.Prog) && a.Each == b.Each && a.Op == b.Op && a.Parts == b.Parts && slices.Equal(a.Splits, b.Splits)
}

// jobText is the document's text of a valid job.
func jobText(j job) string {
	mode := map[bool]string{false: "line", true: "each"}[j.Each]
	text := fmt.Sprintf("job %s %d %s\n%s\n", opNames[j.Op], j.Parts, mode, impl.ProgText(j.Prog))
	for _, split := range j.Splits {
		lines, _ := impl.LinesOf(split)
		text += fmt.Sprintf("split %d\n", len(lines))
		for _, line := range lines {
			text += line + "\n"
		}
	}
	return text
}

// isJob fails if the job is not valid or not recovered from its text.
func isJob(t *testing.T, j job) {
	t.Helper()
	text := jobText(j)
	if !impl.JobOk(j) {
		t.Fatalf("JobOk of %.300q is false", text)
	}
	if s := impl.JobText(j); s != text {
		t.Errorf("JobText is %.300q, not %.300q", s, text)
	}
	if back, ok := impl.ReadJob(text); !ok || !sameJob(back, j) {
		t.Errorf("ReadJob(%.300q) = %v, %v", text, back, ok)
	}
	if n := impl.TasksOf(j); n != int64(len(j.Splits))+j.Parts {
		t.Errorf("TasksOf of %.300q is %d", text, n)
	}
}

// rejectsJob fails if a function accepts the job.
func rejectsJob(t *testing.T, name string, j job) {
	t.Helper()
	if impl.JobOk(j) || impl.JobText(j) != "" || impl.TasksOf(j) != 0 {
		t.Errorf("%s: %v, %.300q, %d", name, impl.JobOk(j), impl.JobText(j), impl.TasksOf(j))
	}
}

// validJob returns a job that is valid.
func validJob() job {
	return job{Prog: anyProg("f0 n1 emit"), Op: impl.CbSum, Parts: 2, Splits: []string{"a b\n", "c\n\n"}}
}

// badSplits are texts for which LinesOf returns false.
func badSplits() []string {
	return []string{
		"a", "a\nb", "\n ", "\x00", strings.Repeat("\n", 11), strings.Repeat("a\n", 11), strings.Repeat("\n", 10) + "a",
		strings.Repeat("a", 201) + "\n", strings.Repeat("a", 200), "a\n" + strings.Repeat(" ", 201) + "\n", strings.Repeat("\n", 100000), strings.Repeat("a", 100000) + "\n",
	}
}

// badJobs are jobs that are not valid, each because of one field.
func badJobs() map[string]job {
	bad := map[string]job{"the zero value": {}}
	add := func(name string, change func(j *job)) {
		j := validJob()
		change(&j)
		bad[name] = j
	}
	for i, p := range [][]instr{
		{{Op: impl.PxEmit}},
		{{Op: impl.PxNum}},
		{{Op: impl.PxField, N: 20}, {Op: impl.PxNum}, {Op: impl.PxEmit}},
		{{Op: impl.PxField, S: "a"}, {Op: impl.PxNum}, {Op: impl.PxEmit}},
		{{}},
		append(slices.Repeat(anyProg("f0 n1 emit"), 9), anyProg("f0 n1 n1 emitif")...),
	} {
		add(fmt.Sprint("program ", i), func(j *job) { j.Prog = p })
	}
	for _, op := range notOps {
		add(fmt.Sprint("op ", op), func(j *job) { j.Op = op })
	}
	for _, parts := range []int64{0, -1, 4, 5, 256 + 1, 1<<32 + 1, math.MinInt64, math.MaxInt64} {
		add(fmt.Sprint("parts ", parts), func(j *job) { j.Parts = parts })
	}
	for _, n := range []int{0, 5, 6, 10000} {
		add(fmt.Sprint(n, " splits"), func(j *job) { j.Splits = make([]string, n) })
	}
	add("no splits", func(j *job) { j.Splits = nil })
	for i, split := range badSplits() {
		for at := range 4 {
			add(fmt.Sprint("split ", i, " at ", at), func(j *job) {
				j.Splits = make([]string, 4)
				j.Splits[at] = split
			})
		}
		add(fmt.Sprint("split ", i, " alone"), func(j *job) { j.Splits = []string{split} })
	}
	return bad
}

// jobTexts are texts of jobs.
func jobTexts() []string {
	return []string{
		"job min 2 line\nf0 f1 int emit\nsplit 2\na 5\nb 3\nsplit 0\nsplit 1\na 4\n",
		"job count 1 each\nf0 n7 emit\nsplit 2\nthe cat the\n\nsplit 1\ncat\n",
		"job sum 1 line\n\nsplit 0\n",
		"job max 3 each\n\nsplit 0\nsplit 0\nsplit 0\nsplit 0\n",
		"job count 3 each\n\nsplit 1\nsplit 1\n",
		"job sum 2 line\nt:job n1 emit\nsplit 3\njob sum 2 line\n\nsplit 0\nsplit 1\n \n",
		"job min 3 line\nt: n-1 emit\nsplit 10\n1\n2\n3\n4\n5\n6\n7\n8\n9\n10\n",
		"job min 1 each\nf19 n1 emit\nsplit 2\n\r\n\x00\xff\tsplit\nsplit 1\n  a  b  \n",
	}
}

// randomJob returns a job with few different lines.
func randomJob(random *rand.Rand) job {
	lines := []string{"", " ", "a", "b a", "a 5", "split 0", "split 1", "job sum 1 each", "-3 -3", "\xff\x00", " x  y ", longKey(21), "b " + longKey(20), "a " + longKey(41), "1 2 3 4 5 6 7 8 9 10 11 12 13 14 15 16 17 18 19 20 21"}
	j := job{Prog: randomProg(random, 12), Each: random.Intn(2) == 0, Op: 1 + random.Int63n(4), Parts: 1 + random.Int63n(3)}
	for range 1 + random.Intn(4) {
		split := ""
		for range random.Intn(11) {
			split += lines[random.Intn(len(lines))] + "\n"
		}
		j.Splits = append(j.Splits, split)
	}
	return j
}

func TestJobExample(t *testing.T) {
	if impl.MaxSplits != 4 {
		t.Error("MaxSplits is not the document's")
	}
	text := "job min 2 line\nf0 f1 int emit\nsplit 2\na 5\nb 3\nsplit 0\nsplit 1\na 4\n"
	j := readJob(t, text)
	want := job{Prog: []instr{{Op: impl.PxField}, {Op: impl.PxField, N: 1}, {Op: impl.PxInt}, {Op: impl.PxEmit}}, Op: impl.CbMin, Parts: 2, Splits: []string{"a 5\nb 3\n", "", "a 4\n"}}
	if !sameJob(j, want) || impl.JobText(want) != text {
		t.Errorf("%v", j)
	}
	if n := impl.TasksOf(j); n != 5 {
		t.Errorf("TasksOf is %d", n)
	}
}

// Promise 5: a job is recovered from its text.
func TestJobText(t *testing.T) {
	for _, s := range jobTexts() {
		j := readJob(t, s)
		isJob(t, j)
		if jobText(j) != s {
			t.Errorf("ReadJob(%q) = %v", s, j)
		}
	}
	for op := range opNames {
		for parts := int64(1); parts <= 3; parts++ {
			for splits := 1; splits <= 4; splits++ {
				for _, each := range []bool{false, true} {
					j := job{Op: op, Parts: parts, Each: each, Splits: make([]string, splits)}
					isJob(t, j)
					j.Prog = anyProg("f0 n1 emit")
					for i := range j.Splits {
						j.Splits[i] = strings.Repeat("a\n", i)
					}
					isJob(t, j)
				}
			}
		}
	}
	random := rand.New(rand.NewSource(9))
	for range 3000 {
		isJob(t, randomJob(random))
	}
}

func TestJobLimits(t *testing.T) {
	long := strings.Repeat("x", 200)
	full := strings.Repeat(long+"\n", 10)
	for _, change := range []func(j *job){
		func(j *job) { j.Parts = 3 },
		func(j *job) { j.Parts = 1 },
		func(j *job) { j.Splits = []string{""} },
		func(j *job) { j.Splits = []string{full} },
		func(j *job) { j.Splits = []string{full, full, full, full} },
		func(j *job) { j.Splits = []string{"", "", "", strings.Repeat("\n", 10)} },
		func(j *job) { j.Prog = nil },
		func(j *job) { j.Prog = slices.Repeat(anyProg("f0 n1 emit"), 10) },
	} {
		j := validJob()
		change(&j)
		isJob(t, j)
	}
	head := "job sum 3 each\n\n"
	for text, want := range map[string]bool{
		head + "split 1\n" + long + "\n":                                                     true,
		head + "split 1\nx" + long + "\n":                                                    false,
		head + "split 10\n" + full:                                                           true,
		head + "split 11\n" + full + "\n":                                                    false,
		head + "split 11\n" + strings.Repeat("\n", 11):                                       false,
		head + strings.Repeat("split 0\n", 4):                                                true,
		head + strings.Repeat("split 0\n", 5):                                                false,
		head + strings.Repeat("split 0\n", 100000):                                           false,
		head + strings.Repeat("split 10\n"+full, 4):                                          true,
		head + strings.Repeat("split 10\n"+full, 5):                                          false,
		"job sum 4 each\n\nsplit 0\n":                                                        false,
		"job sum 0 each\n\nsplit 0\n":                                                        false,
		"job sum 3 each\n" + strings.Repeat("f0 n1 emit ", 10) + "\nsplit 0\n":               false,
		"job sum 3 each\n" + strings.Repeat("f0 n1 emit ", 9) + "f0 n1 emit\nsplit 0\n":      true,
		"job sum 3 each\n" + strings.Repeat("f0 n1 emit ", 9) + "f0 n1 n1 emitif\nsplit 0\n": false,
	} {
		j, ok := impl.ReadJob(text)
		if ok != want || ok && impl.JobText(j) != text || !ok && !sameJob(j, job{}) {
			t.Errorf("ReadJob(%.300q) = %v, %v", text, j, ok)
		}
	}
}

func TestJobsThatAreNotValid(t *testing.T) {
	isJob(t, validJob())
	for name, j := range badJobs() {
		rejectsJob(t, name, j)
	}
}

func TestReadJobRejects(t *testing.T) {
	head, end := "job min 2 line\n", "\nsplit 0\n"
	for _, s := range []string{
		"", "\n", "\n\n", "job", "job\n", head, head + "\n", head + "f0 n1 emit\n", head + "\nsplit 0", head + "split 0\n", "job min 2 line" + end, "\n" + head + end, " " + head + end,
		"min 2 line\n" + end, "job 2 line\n" + end, "job min line\n" + end, "job min 2\n" + end, "job min 2 \n" + end, "job  2 line\n" + end, "job min  line\n" + end,
		"job min 2 line \n" + end, "job  min 2 line\n" + end, "job min  2 line\n" + end, "job min 2  line\n" + end, " job min 2 line\n" + end, "job min 2 line each\n" + end, "job min 2 line line\n" + end, "job job min 2 line\n" + end, "job\tmin 2 line\n" + end, "job min 2 line\r\n" + end,
		"Job min 2 line\n" + end, "jobs min 2 line\n" + end, "job Min 2 line\n" + end, "job mins 2 line\n" + end, "job avg 2 line\n" + end, "job 2 2 line\n" + end, "job sum,min 2 line\n" + end, "job mi 2 line\n" + end,
		"job min 0 line\n" + end, "job min 4 line\n" + end, "job min -1 line\n" + end, "job min -0 line\n" + end, "job min +2 line\n" + end, "job min 02 line\n" + end, "job min 2. line\n" + end, "job min 0x2 line\n" + end, "job min two line\n" + end, "job min 18446744073709551618 line\n" + end, "job min 4294967298 line\n" + end, "job min " + strings.Repeat("0", 1000) + "2 line\n" + end,
		"job min 2 word\n" + end, "job min 2 Line\n" + end, "job min 2 lines\n" + end, "job min 2 eac\n" + end, "job min 2 each,line\n" + end, "job min 2 true\n" + end,
		head + "emit" + end, head + "f0 n1" + end, head + "f0 n01 emit" + end, head + " " + end, head + " f0 n1 emit" + end, head + "f0 n1 emit " + end, head + "f0  n1 emit" + end, head + "f0 n1\nemit" + end, head + "f0 n1 emit\n" + end, head + "f20 n1 emit" + end, head + "\n" + end,
		head + "\nsplit\n", head + "\nsplit \n", head + "\nsplit  0\n", head + "\nsplit 0 \n", head + "\n split 0\n", head + "\nSplit 0\n", head + "\nsplits 0\n", head + "\nsplit0\n", head + "\nsplit\t0\n", head + "\n0\n", head + "\nsplit 0 0\n", head + "\nsplit 0\r\n", head + "\nsplit x\n",
		head + "\nsplit 00\n", head + "\nsplit -0\n", head + "\nsplit +0\n", head + "\nsplit 01\na\n", head + "\nsplit +1\na\n", head + "\nsplit 1.\na\n", head + "\nsplit -1\n", head + "\nsplit -1\na\n", head + "\nsplit 11\n" + strings.Repeat("a\n", 11),
		head + "\nsplit 1\n", head + "\nsplit 1\na", head + "\nsplit 2\na\n", head + "\nsplit 2\na\nb", head + "\nsplit 0\na\n", head + "\nsplit 1\na\nb\n", head + "\nsplit 1\na\n\n", head + "\nsplit 0\n\n", head + "\n\nsplit 0\n", head + "\nsplit 1\na\n\nsplit 0\n", head + "\nsplit 2\na\nsplit 0\nsplit 0\nb\n",
		head + "\nsplit 9223372036854775807\n", head + "\nsplit 9223372036854775808\n", head + "\nsplit 18446744073709551616\n", head + "\nsplit 4294967296\n", head + "\nsplit -9223372036854775808\n", head + "\nsplit 1000000\na\n",
		head + "\nsplit 0\nsplit 0\nsplit 0\nsplit 0\nsplit 0\n", head + "\nsplit 1\n" + strings.Repeat("a", 201) + "\n", head + "\nsplit 1\na\nsplit 1\n" + strings.Repeat("a", 201) + "\n",
		head + end[1:] + end, strings.Repeat("job ", 100000), strings.Repeat("\n", 100000), strings.Repeat(" ", 100000) + "\n",
	} {
		if j, ok := impl.ReadJob(s); ok || !sameJob(j, job{}) {
			t.Errorf("ReadJob(%.300q) = %v, %v", s, j, ok)
		}
	}
	if _, ok := impl.ReadJob(head + end); !ok {
		t.Error("what the texts above are made of is not the text of a job")
	}
}

// A string that ReadJob accepts is the text of the job that it returns.
func TestReadJobAcceptsOnlyTexts(t *testing.T) {
	readsOnly(t, jobTexts(), impl.ReadJob, jobText, func(j job) bool { return sameJob(j, job{}) })
	readsOnly(t, jobTexts(), impl.ReadJob, impl.JobText, func(j job) bool { return sameJob(j, job{}) })
}

// Two jobs that differ have different texts, so that each is recovered.
func TestJobTextsDiffer(t *testing.T) {
	texts := map[string]job{}
	var splits [][]string
	for _, lines := range [][]string{nil, {""}, {"", ""}, {"split 0"}, {"split 0", ""}, {"split 1", "a"}, {"a"}} {
		text, _ := impl.LinesText(lines)
		splits = append(splits, []string{text})
		for _, first := range slices.Clone(splits) {
			if len(first) < 3 {
				splits = append(splits, append(slices.Clone(first), text))
			}
		}
	}
	for _, p := range []string{"", "f0 n1 emit", "t:split n1 emit"} {
		for _, each := range []bool{false, true} {
			for _, l := range splits {
				j := job{Prog: anyProg(p), Each: each, Op: impl.CbMax, Parts: 1, Splits: l}
				text := impl.JobText(j)
				if other, seen := texts[text]; text == "" || seen && !sameJob(other, j) {
					t.Fatalf("JobText of %v and of %v is %q", j, other, text)
				}
				texts[text] = j
			}
		}
	}
	if len(texts) < 500 {
		t.Errorf("only %d texts", len(texts))
	}
}

// keepsJob fails if use modifies the lists of a job.
func keepsJob(t *testing.T, j job, use func(j job)) {
	t.Helper()
	keeps(t, "a function of jobs", j.Prog, instr{Op: impl.PxNum, N: 7}, func(p []instr) {
		with := j
		with.Prog = p
		use(with)
	})
	keeps(t, "a function of jobs", j.Splits, "spare", func(l []string) {
		with := j
		with.Splits = l
		use(with)
	})
}

func TestJobsMemory(t *testing.T) {
	jobs := []job{validJob(), {}}
	for _, name := range []string{"program 0", "op 0", "parts 0", "split 0 at 3"} {
		jobs = append(jobs, badJobs()[name])
	}
	for _, j := range jobs {
		keepsJob(t, j, func(j job) {
			impl.JobOk(j)
			impl.JobText(j)
			impl.TasksOf(j)
		})
	}
	text := jobTexts()[0]
	fresh(t, "ReadJob", instr{Op: 99}, func() []instr { return readJob(t, text).Prog })
	fresh(t, "ReadJob", "mark", func() []string { return readJob(t, text).Splits })
}
