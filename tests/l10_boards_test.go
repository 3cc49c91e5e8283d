package tests

import (
	"fmt"
	"math"
	"math/rand"
	"regexp"
	"slices"
	"strconv"
	"strings"
	"sync"
	"testing"

	"loop.example/g00703/impl"
)

type state = impl.State

var (
	markForm   = regexp.MustCompile(`^(ok|failed) ([1-9][0-9]{0,6}) ([0-3])$`)
	claimForm  = regexp.MustCompile(`^([0-3]) ([1-9][0-9]{0,6}) (0|[1-9][0-9]{0,6})$`)
	failedForm = regexp.MustCompile(`^failed (0|-?[1-9][0-9]{0,18})$`)
)

// dataIn returns the data of the first object with a key.
func dataIn(s store, key string) (string, bool) {
	at := slices.IndexFunc(s.Objs, func(o obj) bool { return o.Key == key })
	if at < 0 {
		return "", false
	}
	return s.Objs[at].Data, true
}

// matched returns what the groups of a form match, or nothing if there is no
// object with the key or its data do not have the form.
func matched(s store, key string, form *regexp.Regexp) []string {
	data, _ := dataIn(s, key)
	return form.FindStringSubmatch(data)
}

// versions returns the numbers that the texts contain, or false if one of them
// is greater than a version may be.
func versions(texts ...string) (numbers []int64, ok bool) {
	for _, text := range texts {
		n, err := strconv.ParseInt(text, 10, 64)
		if err != nil || n > 1000000 {
			return nil, false
		}
		numbers = append(numbers, n)
	}
	return numbers, true
}

// stateModel is the document's state of a task.
func stateModel(s store, task int, now int64) state {
	if m := matched(s, fmt.Sprint("mark/", task), markForm); m != nil {
		if n, ok := versions(m[2:]...); ok {
			return state{Kind: map[string]int64{"ok": 3, "failed": 4}[m[1]], Epoch: n[0], Worker: n[1]}
		}
	}
	if c := matched(s, fmt.Sprint("claim/", task), claimForm); c != nil {
		if n, ok := versions(c[1:]...); ok && n[2] > now {
			return state{Kind: 2, Epoch: n[1], Worker: n[0]}
		} else if ok {
			return state{Kind: 1, Epoch: n[1]}
		}
	}
	return state{Kind: 1}
}

// boardModel is the document's BoardOf of a valid job.
func boardModel(j job, s store, now int64) []state {
	var l []state
	for task := range len(j.Splits) + int(j.Parts) {
		l = append(l, stateModel(s, task, now))
	}
	return l
}

// outcomeModel is the document's OutcomeOf of a valid job.
func outcomeModel(j job, s store) result {
	data, _ := dataIn(s, "job")
	if m := failedForm.FindStringSubmatch(data); m != nil {
		if task, err := strconv.ParseInt(m[1], 10, 64); err == nil {
			return result{Failed: true, Task: task}
		}
	}
	if data != "done" {
		return result{}
	}
	r := result{Done: true}
	for p := range int(j.Parts) {
		task := len(j.Splits) + p
		x := stateModel(s, task, 0)
		data, written := dataIn(s, fmt.Sprintf("res/%d/%d/%d", task, x.Epoch, x.Worker))
		run, ok := impl.ReadRun(data)
		if x.Kind < 3 || !written || !ok {
			return result{}
		}
		r.Out = append(r.Out, run)
	}
	return r
}

// showBoard shows the states of a board: the kind, the epoch and, unless the
// task is free, the worker.
func showBoard(l []state) string {
	var texts []string
	for _, x := range l {
		switch x.Kind {
		case 1:
			text := fmt.Sprint("free ", x.Epoch)
			if x.Worker != 0 {
				text += fmt.Sprint(" but worker ", x.Worker)
			}
			texts = append(texts, text)
		case 2, 3, 4:
			texts = append(texts, fmt.Sprint([]string{"taken ", "done ", "failed "}[x.Kind-2], x.Epoch, " ", x.Worker))
		default:
			texts = append(texts, fmt.Sprint(x))
		}
	}
	return strings.Join(texts, ", ")
}

// boardIs fails if the board of a job is not shown like this.
func boardIs(t *testing.T, j job, s store, now int64, want string) {
	t.Helper()
	if text := showBoard(impl.BoardOf(j, s, now)); text != want {
		t.Errorf("at the time %d the board is %q instead of %q: %s", now, text, want, showStore(s))
	}
}

// outcomeIs fails if the outcome of a job is another one.
func outcomeIs(t *testing.T, j job, s store, want result) {
	t.Helper()
	if r := impl.OutcomeOf(j, s); !sameResult(r, want) {
		t.Errorf("the outcome is %.300q instead of %.300q: %s", fmt.Sprint(r), fmt.Sprint(want), showStore(s))
	}
}

// moments are times in order, those of the limits and beyond them included.
var moments = []int64{math.MinInt64, -1000001, -1, 0, 1, 2, 4, 5, 6, 7, 10, 999998, 999999, 1000000, 1000001, 1 << 32, math.MaxInt64}

// ages fails if a board changes, as time advances, in another way than by
// taken tasks that become free (promise 10).
func ages(t *testing.T, early, late []state) {
	t.Helper()
	if len(early) != len(late) {
		t.Fatalf("%q becomes %q", showBoard(early), showBoard(late))
	}
	for task, x := range early {
		freed := x.Kind == impl.StTaken && late[task] == state{Kind: impl.StFree, Epoch: x.Epoch}
		if late[task] != x && !freed {
			t.Fatalf("as time advances, the state of %d changes: %q, then %q", task, showBoard(early), showBoard(late))
		}
	}
}

// reports fails if a function of chapter 10 does not return for a valid job
// what the models do, or promise 10 does not hold: as time advances, a taken
// task may become free, and without the object job there is no outcome.
func reports(t *testing.T, j job, s store, times ...int64) {
	t.Helper()
	var last []state
	for i, now := range times {
		board, want := impl.BoardOf(j, s, now), boardModel(j, s, now)
		if !slices.Equal(board, want) {
			t.Fatalf("at the time %d the board is %q instead of %q: %s", now, showBoard(board), showBoard(want), showStore(s))
		}
		if i > 0 {
			ages(t, last, board)
		}
		last = board
	}
	marks := int64(0)
	for _, x := range boardModel(j, s, 0) {
		if x.Kind >= 3 {
			marks++
		}
	}
	if n := impl.DoneOf(j, s); n != marks {
		t.Fatalf("DoneOf is %d instead of %d: %s", n, marks, showStore(s))
	}
	r := impl.OutcomeOf(j, s)
	if want := outcomeModel(j, s); !sameResult(r, want) {
		t.Fatalf("the outcome is %.300q instead of %.300q: %s", fmt.Sprint(r), fmt.Sprint(want), showStore(s))
	}
	if _, is := dataIn(s, "job"); !is && !sameResult(r, result{}) {
		t.Fatalf("without the object job the outcome is %v: %s", r, showStore(s))
	}
}

// holding returns the valid store of objects with these keys and data, which
// alternate.
func holding(t *testing.T, pairs ...string) store {
	t.Helper()
	var s store
	for pair := range slices.Chunk(pairs, 2) {
		s.Objs = append(s.Objs, obj{Key: pair[0], Ver: 1, Data: pair[1]})
	}
	slices.SortFunc(s.Objs, func(a, b obj) int { return strings.Compare(a.Key, b.Key) })
	if !impl.StoreOk(s) {
		t.Fatalf("not valid: %s", showStore(s))
	}
	return s
}

// without returns the store without the object that has a key, which it keeps
// among the deleted ones if deleted is true.
func without(s store, key string, deleted bool) store {
	var other store
	for _, o := range s.Objs {
		if o.Key != key {
			other.Objs = append(other.Objs, o)
		}
	}
	if deleted {
		other.Gone = []gone{{Key: key, Ver: 1}}
	}
	return other
}

// with returns the store with other data of the object that has a key.
func with(s store, key, data string) store {
	other := store{Objs: slices.Clone(s.Objs), Gone: s.Gone}
	for i := range other.Objs {
		if other.Objs[i].Key == key {
			other.Objs[i].Data = data
		}
	}
	return other
}

// shaped returns a valid job with as many splits and parts.
func shaped(splits int, parts int64) job {
	return job{Prog: anyProg("f0 n1 emit"), Each: true, Op: impl.CbSum, Parts: parts, Splits: make([]string, splits)}
}

// everyShape calls f with a job of each number of splits and of parts.
func everyShape(f func(j job)) {
	for splits := 1; splits <= 4; splits++ {
		for parts := int64(1); parts <= 3; parts++ {
			f(shaped(splits, parts))
		}
	}
}

// noMarks are data that contain no mark.
func noMarks() []string {
	l := []string{
		"", " ", "ok", "failed", "ok 1", "failed 1", "ok 1 ", "ok  1 1", "ok 1  1", " ok 1 1", "ok 1 1 ", "ok 1 1\n", "ok 1 1 1", "failed 1 1 0", "1 1", "1 1 6", "done", "done 1 1", "OK 1 1", "Ok 1 1", "fail 1 1", "free 1 1",
		"ok 0 1", "ok 1000001 1", "ok -1 1", "ok 1 4", "ok 1 -1", "failed 0 1", "failed 1000001 1", "failed 1 4", "failed 1 -0", "ok 01 1", "ok +1 1", "ok 1 00", "ok 4294967297 1", "ok 1 18446744073709551616", "ok x 1", "ok 1 x", "\x00", strings.Repeat("9", 30000),
	}
	for _, n := range []string{"-9223372036854775808", "9223372036854775807", "9223372036854775808"} {
		l = append(l, "ok "+n+" 1", "failed 1 "+n)
	}
	return l
}

// noClaims are data that contain no claim.
func noClaims() []string {
	return []string{
		"", " ", "1", "1 1", "1 1 ", "1 1 9 ", " 1 1 9", "1  1 9", "1 1  9", "1 1 9\n", "1 1 9 9", "ok 1 1", "failed 1 1", "1,1,9", "taken 1 1 9", "x 1 9", "1 x 9", "1 1 x",
		"4 1 9", "-1 1 9", "1 0 9", "1 1000001 9", "1 -1 9", "1 1 1000001", "1 1 -1", "01 1 9", "1 01 9", "1 1 09", "+1 1 9", "1 1 +9", "-0 1 9", "1 1 -0", "4294967296 1 9", "1 1 9223372036854775807", "1 1 9223372036854775808", strings.Repeat("1 ", 15000),
	}
}

func TestBoardConstants(t *testing.T) {
	if impl.StFree != 1 || impl.StTaken != 2 || impl.StDone != 3 || impl.StFailed != 4 {
		t.Error("a kind is not the document's")
	}
}

func TestBoardExamples(t *testing.T) {
	j := readJob(t, pairJob)
	w, ok := impl.Play(j, 2, events("0*3"))
	board := impl.BoardOf(j, w.Store, w.Now)
	if !ok || len(board) != 4 || board[0] != (state{Kind: impl.StTaken, Epoch: 1}) || board[1] != (state{Kind: impl.StFree}) {
		t.Errorf("after three steps: %q", showBoard(board))
	}
	if board := impl.BoardOf(j, w.Store, 5); len(board) != 4 || board[0] != (state{Kind: impl.StFree, Epoch: 1}) {
		t.Errorf("at time 5: %q", showBoard(board))
	}
	s, _, code := impl.Create(w.Store, "job", "failed x")
	if code != impl.SoOk {
		t.Fatalf("the object job is not created: %d", code)
	}
	for _, s := range []store{s, holding(t, "job", "failed x")} {
		if r := impl.OutcomeOf(j, s); !sameResult(r, result{}) {
			t.Errorf("with %q the outcome is %v", "failed x", r)
		}
	}
}

// A claim holds as long as its Until is greater than the time.
func TestLeasesOnBoards(t *testing.T) {
	j := shaped(1, 1)
	for _, until := range []int64{0, 1, 5, 14, 999999, 1000000} {
		s := holding(t, "claim/0", fmt.Sprint("3 7 ", until), "claim/1", fmt.Sprint("0 1000000 ", until))
		for _, now := range []int64{until - 1, until - 2, -1, -1000000, math.MinInt64} {
			if now < until {
				boardIs(t, j, s, now, "taken 7 3, taken 1000000 0")
			}
		}
		for _, now := range []int64{until, until + 1, until + 5, 1000001, 1<<32 + until, math.MaxInt64} {
			boardIs(t, j, s, now, "free 7, free 1000000")
		}
	}
	// One lease ends before another one.
	s := holding(t, "claim/0", "1 2 5", "claim/1", "2 3 6")
	for now, want := range []string{"taken 2 1, taken 3 2", "free 2, taken 3 2", "free 2, free 3"} {
		boardIs(t, j, s, int64(now)+4, want)
	}
}

// What is said of a task by its mark and its claim, whichever there are.
func TestStates(t *testing.T) {
	j := shaped(1, 1)
	for _, r := range []struct{ mark, claim, before, behind string }{
		{"", "", "free 0", "free 0"},
		{"", "2 3 5", "taken 3 2", "free 3"},
		{"", "0 1 5", "taken 1 0", "free 1"},
		{"", "3 1000000 5", "taken 1000000 3", "free 1000000"},
		{"ok 1 0", "", "done 1 0", "done 1 0"},
		{"failed 1 0", "", "failed 1 0", "failed 1 0"},
		{"ok 1000000 3", "", "done 1000000 3", "done 1000000 3"},
		{"failed 1000000 3", "", "failed 1000000 3", "failed 1000000 3"},
		{"ok 4 1", "2 3 5", "done 4 1", "done 4 1"},
		{"failed 4 1", "2 3 5", "failed 4 1", "failed 4 1"},
		{"ok 1 2", "2 9 5", "done 1 2", "done 1 2"},
	} {
		for task := range 2 {
			var pairs []string
			if r.mark != "" {
				pairs = append(pairs, fmt.Sprint("mark/", task), r.mark)
			}
			if r.claim != "" {
				pairs = append(pairs, fmt.Sprint("claim/", task), r.claim)
			}
			s := holding(t, pairs...)
			show := func(text string) string {
				return []string{text + ", free 0", "free 0, " + text}[task]
			}
			for _, now := range []int64{math.MinInt64, -1, 0, 4} {
				boardIs(t, j, s, now, show(r.before))
			}
			for _, now := range []int64{5, 6, math.MaxInt64} {
				boardIs(t, j, s, now, show(r.behind))
			}
			reports(t, j, s, moments...)
			// A deleted object says nothing.
			for _, o := range s.Objs {
				reports(t, j, without(s, o.Key, true), moments...)
			}
		}
	}
	deleted := store{Gone: []gone{{Key: "claim/0", Ver: 2}, {Key: "job", Ver: 1}, {Key: "mark/0", Ver: 3}, {Key: "mark/1", Ver: 1}}}
	boardIs(t, j, deleted, 0, "free 0, free 0")
	outcomeIs(t, j, deleted, result{})
	if n := impl.DoneOf(j, deleted); n != 0 {
		t.Errorf("with deleted marks DoneOf is %d", n)
	}
}

// Each task of each job has a state of its own, in the order of the tasks.
func TestStatesOfTasks(t *testing.T) {
	everyShape(func(j job) {
		n := len(j.Splits) + int(j.Parts)
		for task := range n {
			for text, want := range map[string]state{"ok 2 1": {Kind: 3, Epoch: 2, Worker: 1}, "failed 3 2": {Kind: 4, Epoch: 3, Worker: 2}} {
				s := holding(t, fmt.Sprint("mark/", task), text)
				board := slices.Repeat([]state{{Kind: 1}}, n)
				board[task] = want
				if l := impl.BoardOf(j, s, 0); !slices.Equal(l, board) || impl.DoneOf(j, s) != 1 {
					t.Errorf("%d tasks, the mark of %d: %q, %d", n, task, showBoard(l), impl.DoneOf(j, s))
				}
			}
			s := holding(t, fmt.Sprint("claim/", task), "1 4 6")
			board := slices.Repeat([]state{{Kind: 1}}, n)
			board[task] = state{Kind: 2, Epoch: 4, Worker: 1}
			if l := impl.BoardOf(j, s, 5); !slices.Equal(l, board) || impl.DoneOf(j, s) != 0 {
				t.Errorf("%d tasks, the claim of %d: %q, %d", n, task, showBoard(l), impl.DoneOf(j, s))
			}
		}
		var pairs []string
		for task := range n {
			pairs = append(pairs, fmt.Sprint("mark/", task), []string{"ok 1 0", "failed 2 1", "", "ok 4 3"}[task%4], fmt.Sprint("claim/", task), fmt.Sprint(task%4, " ", 10+task, " 5"))
		}
		s := holding(t, pairs...)
		reports(t, j, s, moments...)
		reports(t, j, store{}, moments...)
	})
	s := holding(t, "claim/0", "0 1 5", "claim/1", "1 2 3", "claim/4", "2 5 9", "mark/0", "ok 1 0", "mark/2", "failed 2 3", "mark/5", "ok 3 1", "mark/6", "failed 1 1")
	boardIs(t, shaped(4, 3), s, 4, "done 1 0, free 2, failed 2 3, free 0, taken 5 2, done 3 1, failed 1 1")
	if n := impl.DoneOf(shaped(4, 3), s); n != 4 {
		t.Errorf("DoneOf is %d", n)
	}
}

// What is not read as a mark or a claim is none.
func TestMalformedMarksAndClaims(t *testing.T) {
	j := shaped(1, 1)
	for _, text := range noMarks() {
		boardIs(t, j, holding(t, "mark/0", text), 0, "free 0, free 0")
		boardIs(t, j, holding(t, "mark/1", text, "claim/1", "1 2 5"), 4, "free 0, taken 2 1")
		boardIs(t, j, holding(t, "mark/1", text, "claim/1", "1 2 5", "mark/0", "ok 1 0"), 5, "done 1 0, free 2")
		if n := impl.DoneOf(j, holding(t, "mark/0", text, "mark/1", "ok 1 0")); n != 1 {
			t.Errorf("with the mark %.100q DoneOf is %d", text, n)
		}
	}
	for _, text := range noClaims() {
		for _, now := range moments {
			boardIs(t, j, holding(t, "claim/0", text), now, "free 0, free 0")
			boardIs(t, j, holding(t, "claim/1", text, "mark/1", "failed 1 2"), now, "free 0, failed 1 2")
		}
	}
	for _, text := range []string{"ok 3 2", "failed 10 0"} {
		near(text, func(text string) { reports(t, j, holding(t, "mark/1", text, "claim/1", "0 1 1"), 0, 1) })
	}
	near("2 3 14", func(text string) { reports(t, j, holding(t, "claim/0", text), -1, 0, 5, 13, 14, 1000) })
}

// Objects that are no marks or claims of tasks of the job say nothing.
func TestForeignMarksAndClaims(t *testing.T) {
	everyShape(func(j job) {
		n := len(j.Splits) + int(j.Parts)
		want := showBoard(slices.Repeat([]state{{Kind: 1}}, n))
		names := []string{"", "00", "-1", "-0", "01", "0/", "/0", "0/0", fmt.Sprint(n), fmt.Sprint(n + 1), "10", "100", "1000000", "a"}
		for _, name := range names {
			boardIs(t, j, holding(t, "mark/"+name, "ok 1 1", "claim/"+name, "1 1 9"), 0, want)
			if c := impl.DoneOf(j, holding(t, "mark/"+name, "ok 1 1")); c != 0 {
				t.Errorf("the mark of %q counts: %d", name, c)
			}
		}
		for _, key := range []string{"mark", "claim", "mark0", "claim0", "marks/0", "m/0", "in/0", "out/0", "res/0", "0", "done/0", "job/0"} {
			reports(t, j, holding(t, key, "ok 1 1"), 0)
			boardIs(t, j, holding(t, key, "1 1 9"), 0, want)
		}
		// A mark is none where a claim is to be, and the other way round.
		boardIs(t, j, holding(t, "mark/0", "1 1 9", "claim/0", "ok 1 1"), 0, want)
	})
}

func TestDoneOf(t *testing.T) {
	j := shaped(2, 3)
	texts := []string{"", "ok 1 0", "failed 2 3", "ok 0 0"}
	for code := range 1 << 10 {
		var pairs []string
		want := int64(0)
		for task := range 5 {
			text := texts[code>>(2*task)&3]
			if text != "" {
				pairs = append(pairs, fmt.Sprint("mark/", task), text)
			}
			if text == texts[1] || text == texts[2] {
				want++
			}
		}
		s := holding(t, append(pairs, "claim/0", "0 1 5", "claim/4", "0 1 5", "mark/5", "ok 1 0")...)
		if n := impl.DoneOf(j, s); n != want {
			t.Errorf("DoneOf is %d instead of %d: %s", n, want, showStore(s))
		}
	}
}

// doneStore returns the objects of a job that succeeded, and its outcome: part
// p was reduced in the epoch 3 + p by worker 2 - p.
func doneStore(t *testing.T, j job) (store, result) {
	t.Helper()
	pairs := []string{"job", "done"}
	want := result{Done: true}
	for p := range int(j.Parts) {
		task := len(j.Splits) + p
		run := [][]rec{{{Key: "a", N: int64(p)}, {Key: "b", N: -1}}, nil, {{Key: "", N: math.MinInt64}}}[p]
		pairs = append(pairs, fmt.Sprint("mark/", task), fmt.Sprint("ok ", 3+p, " ", 2-p), fmt.Sprintf("res/%d/%d/%d", task, 3+p, 2-p), bytesOf(run))
		want.Out = append(want.Out, run)
	}
	return holding(t, pairs...), want
}

// noOutcomes are data of the object job that report no outcome.
func noOutcomes() []string {
	l := []string{
		"", " ", "\x00", "\n", "0", "1", "-", "ok", "ok 1 0", "open", "free", "taken", "job", "true",
		"done ", " done", "done\n", "done\x00", "Done", "DONE", "don", "dne", "donee", "done 1", "done 0", "done done", "done |", "done failed 1",
		"failed", "failed ", "failed  ", "failed  1", "failed 1 ", "failed 1  ", " failed 1", "failed1", "failed\t1", "failed\n1", "failed 1\n", "failed 1\x00", "failed: 1", "failed, 1", "failed/1", "failed-1", "Failed 1", "FAILED 1", "faile 1", "fail 1", "faileds 1", "failed 1 1", "failed 1 0", "failed failed 1", "failed done", "failed task 1",
		"failed x", "failed 1x", "failed x1", "failed -", "failed --1", "failed - 1", "failed +1", "failed +", "failed 01", "failed 00", "failed -0", "failed -01", "failed +0", "failed 1.", "failed 1.0", "failed .1", "failed 1e0", "failed 0x1", "failed 1_0", "failed 1,0", "failed \u0661",
		"failed 9223372036854775808", "failed -9223372036854775809", "failed 9999999999999999999", "failed -9999999999999999999", "failed 10000000000000000000", "failed 18446744073709551616", "failed 18446744073709551617", "failed 00000000000000000001",
	}
	for _, text := range []string{"0", "1", "9", " ", "x"} {
		l = append(l, "failed "+strings.Repeat(text, 29990), "failed "+strings.Repeat(text, 1000)+"1")
	}
	return l
}

// Whatever else is in the store, the object job decides whether there is an
// outcome and, if the job failed, which one.
func TestOutcomeTexts(t *testing.T) {
	everyShape(func(j job) {
		full, want := doneStore(t, j)
		outcomeIs(t, j, full, want)
		for _, s := range []store{full, {Objs: []obj{{Key: "job", Ver: 1}}}} {
			for _, text := range noOutcomes() {
				outcomeIs(t, j, with(s, "job", text), result{})
			}
			for _, task := range []int64{0, 1, 2, 3, 4, 5, 6, 7, 8, 9, 10, 100, 1000000, 1000001, 1 << 32, math.MaxInt64, -1, -2, -10, -1000001, math.MinInt64, math.MinInt64 + 1} {
				outcomeIs(t, j, with(s, "job", fmt.Sprint("failed ", task)), result{Failed: true, Task: task})
			}
		}
		for _, deleted := range []bool{false, true} {
			outcomeIs(t, j, without(full, "job", deleted), result{})
		}
		for _, key := range []string{"jo", "job/", "job/0", "job-", "jobs", "0job", "in/0", "res/0", "done"} {
			outcomeIs(t, j, holding(t, key, "failed 0"), result{})
		}
		outcomeIs(t, j, store{}, result{})
		outcomeIs(t, j, holding(t, "job", "done"), result{})
	})
	j := shaped(2, 1)
	full, _ := doneStore(t, j)
	for _, text := range []string{"done", "failed 12", "failed -1", "failed 0", "failed 922337203685477580", "failed -9223372036854775808"} {
		near(text, func(text string) { reports(t, j, with(full, "job", text)) })
	}
}

// noRuns are data that contain no run.
func noRuns() []string {
	good := bytesOf([]rec{{Key: "ab", N: -2}, {Key: "b", N: 1}})
	l := []string{"\x00", "x", "done", "\x01", "\xff", good + "\x00", good + good, good[:len(good)-1], good[1:], good[:10], "\x00" + good, strings.Repeat("\x00", 8), strings.Repeat("\x00", 10), strings.Repeat("\x00", 29999)}
	for _, run := range notRuns() {
		if data := bytesOf(run); len(data) <= 30000 {
			l = append(l, data)
		}
	}
	return l
}

// A mark or a run of a part is missing, malformed, or of another task.
func TestOutcomeRuns(t *testing.T) {
	everyShape(func(j job) {
		full, want := doneStore(t, j)
		for p := range int(j.Parts) {
			task := len(j.Splits) + p
			marked, written := fmt.Sprint("mark/", task), fmt.Sprintf("res/%d/%d/%d", task, 3+p, 2-p)
			for _, deleted := range []bool{false, true} {
				outcomeIs(t, j, without(full, marked, deleted), result{})
				outcomeIs(t, j, without(full, written, deleted), result{})
			}
			for _, text := range noMarks() {
				outcomeIs(t, j, with(full, marked, text), result{})
			}
			for _, data := range noRuns() {
				outcomeIs(t, j, with(full, written, data), result{})
			}
			// The epoch and the worker of the run are those of the mark.
			for _, text := range []string{"ok 1 0", fmt.Sprint("ok ", 2+p, " ", 2-p), fmt.Sprint("ok ", 4+p, " ", 2-p), fmt.Sprint("ok ", 3+p, " ", 3-p), fmt.Sprint("ok ", 2-p, " ", 3), "failed 1 0", "ok 1000000 3"} {
				outcomeIs(t, j, with(full, marked, text), result{})
			}
			for _, key := range []string{fmt.Sprintf("res/%d/%d/%d", task+9, 3+p, 2-p), fmt.Sprintf("res/%d/%d/%d", p, 3+p, 2-p), fmt.Sprintf("res/%d/%d", task, 3+p), fmt.Sprintf("res/%d/%d/%d/0", task, 3+p, 2-p), fmt.Sprintf("out/%d/%d/%d/%d", task, 3+p, 2-p, p), fmt.Sprintf("res/%d/%d/%d", task, 2-p, 3+p), "res"} {
				s := without(full, written, false)
				s.Objs = append(s.Objs, obj{Key: key, Ver: 1})
				slices.SortFunc(s.Objs, func(a, b obj) int { return strings.Compare(a.Key, b.Key) })
				outcomeIs(t, j, s, result{})
			}
			// Without a mark there is no run, also none of epoch 0.
			s := without(full, marked, false)
			for _, key := range []string{fmt.Sprintf("res/%d/0/0", task), fmt.Sprintf("res/%d/1/0", task)} {
				s.Objs = append(s.Objs, obj{Key: key, Ver: 1})
			}
			outcomeIs(t, j, s, result{})
			// Any run is reported, whatever its records are.
			for _, run := range [][]rec{nil, {{Key: "other", N: 1}}, {{Key: "a", N: 1}, {Key: "a", N: 1}}, manyRecs(600), fullRun()} {
				other := want
				other.Out = slices.Clone(want.Out)
				other.Out[p] = run
				outcomeIs(t, j, with(full, written, bytesOf(run)), other)
			}
			// Only its epoch and its worker are asked of a mark.
			outcomeIs(t, j, with(full, marked, fmt.Sprint("failed ", 3+p, " ", 2-p)), want)
		}
	})
}

// fullRun is the run with the most bytes.
func fullRun() []rec {
	var run []rec
	for i := range int64(600) {
		run = append(run, rec{Key: fmt.Sprintf("%040d", i), N: -i})
	}
	return run
}

// What is not named in the chapter does not matter for an outcome: marks of
// splits, claims, versions, deleted objects, results of other epochs.
func TestOutcomeNeedsNothingElse(t *testing.T) {
	everyShape(func(j job) {
		full, want := doneStore(t, j)
		for i := range full.Objs {
			full.Objs[i].Ver = int64(i) + 2
		}
		full.Gone = []gone{{Key: "a", Ver: 1}, {Key: "claim/0", Ver: 9}, {Key: "res/0/1/1", Ver: 1}}
		outcomeIs(t, j, full, want)
		for _, text := range []string{"ok 1 0", "failed 1 0", "", "x"} {
			s := full
			for split := range j.Splits {
				s.Objs = append(slices.Clone(s.Objs), obj{Key: fmt.Sprint("mark/", split), Ver: 1, Data: text})
			}
			for task := range len(j.Splits) + int(j.Parts) {
				s.Objs = append(s.Objs, obj{Key: fmt.Sprint("claim/", task), Ver: 1, Data: "3 9 1000000"}, obj{Key: fmt.Sprintf("res/%d/1/1", task), Ver: 1, Data: "x"})
			}
			s.Objs = append(s.Objs, obj{Key: "mark/8", Ver: 1, Data: "failed 1 1"}, obj{Key: "res/8/1/1", Ver: 1, Data: "x"})
			outcomeIs(t, j, s, want)
		}
	})
}

// A store that is not valid is looked at like any other.
func TestBoardsOfBadStores(t *testing.T) {
	j := shaped(1, 1)
	full, want := doneStore(t, j)
	full.Objs = append(full.Objs, obj{Key: "claim/0", Ver: 1, Data: "1 2 5"})
	for name, bad := range badStores() {
		s := store{Objs: slices.Concat(bad.Objs, full.Objs), Gone: bad.Gone}
		if impl.StoreOk(s) {
			t.Fatalf("%s: valid", name)
		}
		boardIs(t, j, s, 4, "taken 2 1, done 3 2")
		boardIs(t, j, s, 5, "free 2, done 3 2")
		outcomeIs(t, j, s, want)
		reports(t, j, s, moments...)
		reports(t, j, bad, moments...)
		if n := impl.DoneOf(j, s); n != 1 {
			t.Errorf("%s: DoneOf is %d", name, n)
		}
	}
	both := full
	both.Gone = []gone{{Key: "res/1/3/2", Ver: 1}, {Key: "job", Ver: 1}, {Key: "mark/1", Ver: 1}}
	outcomeIs(t, j, both, want)
	// The first of several objects with the same key is the one that counts.
	first := with(with(full, "job", "failed 4"), "mark/1", "failed 9 0")
	twice := store{Objs: slices.Concat(first.Objs, full.Objs)}
	boardIs(t, j, twice, 4, "taken 2 1, failed 9 0")
	outcomeIs(t, j, twice, result{Failed: true, Task: 4})
	twice = store{Objs: slices.Concat(full.Objs, first.Objs)}
	boardIs(t, j, twice, 4, "taken 2 1, done 3 2")
	outcomeIs(t, j, twice, want)
	twice = store{Objs: slices.Concat(with(full, "mark/1", "ok").Objs, full.Objs)}
	boardIs(t, j, twice, 4, "taken 2 1, free 0")
	outcomeIs(t, j, twice, result{})
	// Data that are longer than those of an object.
	long := with(full, "res/1/3/2", longData)
	outcomeIs(t, j, long, result{})
	boardIs(t, j, with(full, "mark/1", "ok 3 2"+longData), 0, "taken 2 1, free 0")
}

// Without a valid job, nothing is reported.
func TestBoardsOfBadJobs(t *testing.T) {
	full, want := doneStore(t, shaped(2, 2))
	full.Objs = append(full.Objs, obj{Key: "claim/0", Ver: 1, Data: "1 2 5"}, obj{Key: "mark/0", Ver: 1, Data: "ok 1 1"})
	outcomeIs(t, validJob(), full, want)
	stores := []store{full, with(full, "job", "failed 0"), with(full, "job", "failed 3"), with(full, "job", ""), without(full, "job", false), {}, badStores()["a key in both lists"]}
	for name, j := range badJobs() {
		for _, s := range stores {
			for _, now := range []int64{math.MinInt64, -1, 0, 5, math.MaxInt64} {
				if l := impl.BoardOf(j, s, now); len(l) != 0 {
					t.Errorf("%s: %q", name, showBoard(l))
				}
			}
			if n := impl.DoneOf(j, s); n != 0 {
				t.Errorf("%s: DoneOf is %d", name, n)
			}
			outcomeIs(t, j, s, result{})
		}
	}
}

// randomReport returns a store with some of the objects of a job, many of
// them well-formed.
func randomReport(random *rand.Rand, j job) store {
	var s store
	add := func(key string, chance float64, texts ...string) {
		if random.Float64() < chance {
			s.Objs = append(s.Objs, obj{Key: key, Ver: 1 + random.Int63n(9), Data: texts[random.Intn(len(texts))]})
		}
	}
	chance := random.Float64() * 2
	good, short := bytesOf([]rec{{Key: "a", N: 1}, {Key: "b", N: 2}}), bytesOf([]rec{{Key: "c", N: 3}})
	for task := range len(j.Splits) + int(j.Parts) + 1 {
		add(fmt.Sprint("mark/", task), chance, "ok 1 0", "ok 2 1", "ok 1 1", "ok 2 0", "failed 1 0", "ok 0 1")
		add(fmt.Sprint("claim/", task), chance, "0 1 5", "1 2 0", "2 3 10", "3 1000000 1000000", "x")
		for epoch := 1; epoch <= 2; epoch++ {
			for worker := range 2 {
				add(fmt.Sprintf("res/%d/%d/%d", task, epoch, worker), chance, good, short, "", good, "x")
			}
		}
	}
	add("job", 0.9, "done", "done", "done", "done", "failed 0", "failed 3", "failed x", "", "done ")
	random.Shuffle(len(s.Objs), func(a, b int) { s.Objs[a], s.Objs[b] = s.Objs[b], s.Objs[a] })
	return s
}

// Promise 10, and agreement with the models, for stores of all kinds.
func TestBoardsOfRandomStores(t *testing.T) {
	random := rand.New(rand.NewSource(19))
	kinds := map[string]int{}
	for range 4000 {
		j := shaped(1+random.Intn(4), 1+random.Int63n(3))
		s := randomReport(random, j)
		reports(t, j, s, moments...)
		r := impl.OutcomeOf(j, s)
		switch {
		case r.Done:
			kinds["done"]++
		case r.Failed:
			kinds["failed"]++
		default:
			kinds["open"]++
		}
		outcomeIs(t, j, without(s, "job", false), result{})
		for task, x := range impl.BoardOf(j, s, 4) {
			kinds[showBoard([]state{x})[:3]]++
			if later := impl.BoardOf(j, s, 5)[task]; later != x {
				kinds["freed"]++
			}
		}
	}
	for _, kind := range []string{"done", "failed", "open", "fre", "tak", "don", "fai", "freed"} {
		if kinds[kind] < 200 {
			t.Errorf("only %d of the kind %q", kinds[kind], kind)
		}
	}
}

// callBoards calls all functions of the chapter.
func callBoards(j job, s store) {
	for _, now := range []int64{-1, 4, 5} {
		impl.BoardOf(j, s, now)
	}
	impl.OutcomeOf(j, s)
	impl.DoneOf(j, s)
}

// resultPlaces returns the memory of all lists of a result.
func resultPlaces(name string, r result) []place {
	places := []place{placeOf(name+" Out", r.Out)}
	for i, run := range r.Out {
		places = append(places, placeOf(fmt.Sprint(name, " run ", i), run))
	}
	return places
}

// Promise 15: no argument is modified, nor what is behind it, and no two lists
// of one result, or of two, or of a result and an argument share memory.
func TestBoardsMemory(t *testing.T) {
	j := shaped(2, 3)
	full, _ := doneStore(t, j)
	full.Objs = append(full.Objs, obj{Key: "claim/0", Ver: 1, Data: "1 2 5"}, obj{Key: "mark/1", Ver: 1, Data: "failed 1 1"})
	full.Gone = []gone{{Key: "x", Ver: 1}}
	same := full
	for p := range 3 {
		same = with(with(same, fmt.Sprint("mark/", 2+p), "ok 3 2"), "res/2/3/2", bytesOf(fullRun()))
	}
	for _, s := range []store{full, same, with(full, "job", "failed 1"), with(full, "job", "x"), with(full, "res/3/4/1", "x"), {}, badStores()["a key in both lists"]} {
		for _, j := range []job{j, readJob(t, pairJob), {}, badJobs()["op 0"], badJobs()["parts 4"]} {
			keepsJob(t, j, func(j job) { callBoards(j, s) })
			for _, filler := range []obj{{Key: "job", Ver: 1, Data: "failed 9"}, {Key: "mark/0", Ver: 1, Data: "ok 9 3"}} {
				keeps(t, "a function of boards", s.Objs, filler, func(l []obj) { callBoards(j, store{Objs: l, Gone: s.Gone}) })
			}
			keeps(t, "a function of boards", s.Gone, gone{Key: "job", Ver: 1}, func(l []gone) { callBoards(j, store{Objs: s.Objs, Gone: l}) })
		}
		arguments := []place{placeOf("Prog", j.Prog), placeOf("Splits", j.Splits), placeOf("Objs", s.Objs), placeOf("Gone", s.Gone)}
		apart(t, slices.Concat(arguments, resultPlaces("first", impl.OutcomeOf(j, s)), resultPlaces("second", impl.OutcomeOf(j, s)), []place{placeOf("board", impl.BoardOf(j, s, 0)), placeOf("second board", impl.BoardOf(j, s, 0))}))
	}
	fresh(t, "BoardOf", state{Kind: 9}, func() []state { return impl.BoardOf(j, full, 4) })
	for p := range 3 {
		if p == 1 {
			continue // it has no records
		}
		fresh(t, "OutcomeOf", rec{Key: "mark"}, func() []rec { return impl.OutcomeOf(j, full).Out[p] })
	}
}

// Promise 15: equal arguments yield equal results, also at the same time.
func TestBoardsAreRepeated(t *testing.T) {
	random := rand.New(rand.NewSource(20))
	for range 40 {
		j := shaped(1+random.Intn(4), 1+random.Int63n(3))
		s := randomReport(random, j)
		board, r, n := impl.BoardOf(j, s, 5), impl.OutcomeOf(j, s), impl.DoneOf(j, s)
		var running sync.WaitGroup
		for range 4 {
			running.Go(func() {
				for range 10 {
					if !slices.Equal(impl.BoardOf(j, s, 5), board) || !sameResult(impl.OutcomeOf(j, s), r) || impl.DoneOf(j, s) != n {
						t.Errorf("not %q, %v, %d again", showBoard(board), r, n)
					}
				}
			})
		}
		running.Wait()
	}
}
