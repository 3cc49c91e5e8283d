package tests

import (
	"fmt"
	"math/rand"
	"slices"
	"strings"
	"testing"

	"loop.example/g00703/impl"
)

// settled reports whether a task has a mark.
func settled(x state) bool { return x.Kind == impl.StDone || x.Kind == impl.StFailed }

// boardsKeep fails if an event breaks a part of promise 9 that can be seen on
// the boards before and after it, or if the later board is not that of the
// model, or does not keep promise 10 as further time advances.
func boardsKeep(t *testing.T, j job, before, after world) {
	t.Helper()
	reports(t, j, after.Store, after.Now, after.Now+1, after.Now+4, after.Now+5)
	was, is := impl.BoardOf(j, before.Store, before.Now), impl.BoardOf(j, after.Store, after.Now)
	marked := int64(0)
	for task := range is {
		if settled(was[task]) && is[task] != was[task] {
			t.Fatalf("the mark of %d changes: %q, then %q", task, showBoard(was), showBoard(is))
		}
		if settled(is[task]) {
			marked++
		}
	}
	splits := is[:len(j.Splits)]
	for task, x := range is[len(splits):] {
		if x != (state{Kind: impl.StFree}) && slices.ContainsFunc(splits, func(x state) bool { return !settled(x) }) {
			t.Fatalf("reduce task %d is claimed, but a split has no mark: %q", task, showBoard(is))
		}
	}
	if n := impl.DoneOf(j, after.Store); n != marked || n < impl.DoneOf(j, before.Store) {
		t.Fatalf("DoneOf is %d, then %d: %q, then %q", impl.DoneOf(j, before.Store), n, showBoard(was), showBoard(is))
	}
	if before.Now < after.Now {
		ages(t, was, is)
	}
	first, then := impl.OutcomeOf(j, before.Store), impl.OutcomeOf(j, after.Store)
	if !sameResult(first, result{}) && !sameResult(then, first) {
		t.Fatalf("the outcome is %v, then %v", first, then)
	}
	if !sameResult(then, result{}) && marked != impl.TasksOf(j) {
		t.Fatalf("the outcome is %v, but there are %d marks: %q", then, marked, showBoard(is))
	}
}

// shows plays events and fails if then the board at the time of the world is
// not shown like this.
func (h *history) shows(text, want string) {
	h.t.Helper()
	for _, e := range events(text) {
		h.add(e, true)
	}
	if board := showBoard(impl.BoardOf(h.j, h.world.Store, h.world.Now)); board != want {
		h.t.Fatalf("the board after %q is %q instead of %q", showEvents(h.events), board, want)
	}
}

// ended fails if there is no outcome, or it is not shown like this.
func (h *history) ended(want string) {
	h.t.Helper()
	r := impl.OutcomeOf(h.j, h.world.Store)
	text := fmt.Sprint(r.Done, r.Failed, r.Task)
	for _, run := range r.Out {
		text += " " + showRun(run)
	}
	if text != want || !sameResult(r, h.want) {
		h.t.Fatalf("the outcome after %q is %q instead of %q", showEvents(h.events), text, want)
	}
}

// The board after each step that changes it.
func TestBoardOfOneWorker(t *testing.T) {
	h := starts(t, pairJob, 1)
	h.shows("0*2", "free 0, free 0, free 0, free 0")
	h.shows("0", "taken 1 0, free 0, free 0, free 0")
	h.shows("0*3", "taken 1 0, free 0, free 0, free 0")
	h.shows("0", "done 1 0, free 0, free 0, free 0")
	h.shows("0*4", "done 1 0, taken 1 0, free 0, free 0")
	h.shows("0*4", "done 1 0, done 1 0, free 0, free 0")
	h.shows("0*4", "done 1 0, done 1 0, taken 1 0, free 0")
	h.shows("0*6", "done 1 0, done 1 0, done 1 0, free 0")
	h.shows("0*4", "done 1 0, done 1 0, done 1 0, taken 1 0")
	h.shows("0*6", "done 1 0, done 1 0, done 1 0, done 1 0")
	if r := impl.OutcomeOf(h.j, h.world.Store); !sameResult(r, result{}) {
		t.Errorf("before the object job, the outcome is %v", r)
	}
	h.shows("0*2", "done 1 0, done 1 0, done 1 0, done 1 0")
	h.ended("true false 0 [a=1 c=1] [b=2]")
	h.clears(0, "in/0 in/1 job mark/0 mark/1 mark/2 mark/3 res/2/1/0 res/3/1/0")
	h.shows("t*9 x0", "done 1 0, done 1 0, done 1 0, done 1 0")
	h.ended("true false 0 [a=1 c=1] [b=2]")
	h.allEnd()
}

// The example of the last chapter, as far as it is about boards.
func TestBoardOfTwoWorkers(t *testing.T) {
	h := starts(t, wordJob, 2)
	h.shows("0*3", "taken 1 0, free 0")
	h.shows("t*5", "free 1, free 0")
	h.shows("x0 1*40", "done 2 1, done 1 1")
	h.ended("true false 0 [a=2 b=1]")
	h.allEnd()
}

// A lease that expires frees the task, until another worker takes it. The
// first one goes on, and may still be the first to make the mark.
func TestLeasesExpire(t *testing.T) {
	h := starts(t, wordJob, 3)
	h.shows("t*2 0*3", "taken 1 0, free 0")
	h.shows("t*4", "taken 1 0, free 0")
	h.shows("t", "free 1, free 0")
	h.shows("0*2", "free 1, free 0")
	h.shows("1*2", "free 1, free 0")
	h.shows("1", "taken 2 1, free 0")
	h.shows("t*4 2*2", "taken 2 1, free 0")
	h.shows("t 2*3", "free 2, free 0")
	h.shows("2", "taken 3 2, free 0")
	h.shows("x2 t*4", "taken 3 2, free 0")
	h.shows("0", "done 1 0, free 0")
	h.shows("1*3", "done 1 0, free 0")
	h.shows("t*9", "done 1 0, free 0")
	h.shows("0*4", "done 1 0, taken 1 0")
	h.shows("x0 t*5", "done 1 0, free 1")
	h.shows("2*4", "done 1 0, taken 2 2")
	h.allEnd()
}

// The board and the outcome of jobs that fail by their first, by a later map
// task and by a reduce task.
func TestBoardsOfFailures(t *testing.T) {
	long := "split 1\n" + longKey(41) + "\n"
	h := starts(t, "job sum 1 each\nf0 n1 emit\n"+long+"split 1\na\n", 2)
	h.shows("1*3", "taken 1 1, free 0, free 0")
	h.shows("1*2", "failed 1 1, free 0, free 0")
	h.shows("1*5", "failed 1 1, taken 1 1, free 0")
	h.shows("1*50", "failed 1 1, done 1 1, failed 1 1")
	h.ended("false true 0")
	h.allEnd()

	h = starts(t, "job max 2 each\nf0 n1 emit\nsplit 1\na\n"+long+long, 2)
	h.shows("0*60", "done 1 0, failed 1 0, failed 1 0, failed 1 0, failed 1 0")
	h.ended("false true 1")
	h.allEnd()

	h = newHistory(t, threeJob(impl.CbMin, 3, threeOf(50, 51, 50)...), 2)
	for _, e := range events("0*120") {
		h.add(e, false)
	}
	h.shows("1", "done 1 0, done 1 0, done 1 0, done 1 0, done 1 0, failed 1 0, done 1 0")
	h.ended("false true 5")
	h.allEnd()
}

// Promise 9: whatever has happened, after 200 steps of any worker, with a tick
// before each, there is an outcome, which is the result of the job. It stays,
// whatever happens then.
func TestOutcomeIsResult(t *testing.T) {
	random := rand.New(rand.NewSource(21))
	jobs := append(lightJobs(t), heavyJobs()[0], heavyJobs()[1], heavyJobs()[3])
	kinds := map[string]int{}
	for _, j := range jobs {
		want := impl.ResultOf(j)
		kinds[fmt.Sprint("done ", want.Done, ", by the first task ", want.Task == 0)]++
		for workers := int64(1); workers <= 4; workers++ {
			start := randomEvents(random, workers, random.Intn(300))
			number := random.Int63n(workers)
			end := slices.Repeat([]event{{Kind: impl.EvTick}, {Kind: impl.EvStep, Worker: number}}, 200)
			after := randomEvents(random, workers, random.Intn(300))
			w, _ := impl.Play(j, workers, slices.Concat(start, end))
			outcomeIs(t, j, w.Store, want)
			board := showBoard(impl.BoardOf(j, w.Store, w.Now))
			if n := impl.DoneOf(j, w.Store); n != impl.TasksOf(j) || strings.Contains(board, "free") || strings.Contains(board, "taken") {
				t.Errorf("%.300q after %q: %d tasks have marks: %q", jobText(j), showEvents(start), n, board)
			}
			w, ok := impl.Play(j, workers, slices.Concat(start, end, after))
			outcomeIs(t, j, w.Store, want)
			if later := showBoard(impl.BoardOf(j, w.Store, w.Now)); !ok || later != board {
				t.Errorf("%.300q after %q: %q becomes %q", jobText(j), showEvents(slices.Concat(start, end, after)), board, later)
			}
		}
	}
	for _, kind := range []string{"done true, by the first task true", "done false, by the first task true", "done false, by the first task false"} {
		if kinds[kind] == 0 {
			t.Errorf("no job: %s", kind)
		}
	}
}

// Promise 9: however the steps, the crashes and the ticks of all workers mix,
// an outcome, once there is one, is the result of the job.
func TestOutcomesOfCrowds(t *testing.T) {
	random := rand.New(rand.NewSource(22))
	open, reported := 0, 0
	for _, j := range lightJobs(t) {
		want := impl.ResultOf(j)
		for workers := int64(1); workers <= 4; workers++ {
			for range 25 {
				l := randomEvents(random, workers, random.Intn(260))
				w, ok := impl.Play(j, workers, l)
				r := impl.OutcomeOf(j, w.Store)
				if _, is := impl.Get(w.Store, "job"); !ok || is && !sameResult(r, want) || !is && !sameResult(r, result{}) {
					t.Fatalf("%.300q after %q: %v instead of %v", jobText(j), showEvents(l), r, want)
				} else if is {
					reported++
				} else {
					open++
				}
			}
		}
	}
	if open < 100 || reported < 100 {
		t.Errorf("%d worlds without an outcome, %d with one", open, reported)
	}
}
