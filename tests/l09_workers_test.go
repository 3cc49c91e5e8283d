package tests

import (
	"fmt"
	"slices"
	"strings"
	"testing"

	"loop.example/g00703/impl"
)

const (
	wordJob = "job sum 1 each\nf0 n1 emit\nsplit 1\na b a\n"
	// The words a and c belong to the part 0, b belongs to the part 1.
	pairJob = "job sum 2 each\nf0 n1 emit\nsplit 1\na b\nsplit 1\nb c\n"
)

// starts begins the history of a job with a text.
func starts(t *testing.T, text string, workers int64) *history {
	t.Helper()
	return newHistory(t, readJob(t, text), workers)
}

// clears lets a worker in the mode WkClean, WkDrop or WkDelete go on to
// WkRest, and fails if then these are not the keys of all objects.
func (h *history) clears(number int64, keys string) {
	h.t.Helper()
	for range 300 {
		mode := h.world.Workers[number].Mode
		if mode == impl.WkRest {
			h.keys(keys)
			return
		}
		if mode < impl.WkClean {
			h.t.Fatalf("worker %d is %q", number, showWorker(h.world.Workers[number]))
		}
		h.add(event{Kind: impl.EvStep, Worker: number}, true)
	}
	h.t.Fatalf("worker %d does not come to rest", number)
}

func TestWorkerConstants(t *testing.T) {
	if impl.MaxWorkers != 4 || impl.MaxEvents != 1000 || impl.Lease != 5 || impl.EvStep != 1 || impl.EvCrash != 2 || impl.EvTick != 3 {
		t.Error("a limit or kind is not the document's")
	}
	for i, mode := range []int64{impl.WkLook, impl.WkClaim, impl.WkTake, impl.WkRead, impl.WkFetch, impl.WkWrite, impl.WkMark, impl.WkFinish, impl.WkClean, impl.WkDrop, impl.WkDelete, impl.WkRest} {
		if mode != int64(i)+1 {
			t.Errorf("the mode %q is %d", modeNames[mode], mode)
		}
	}
}

func TestWorkerExamples(t *testing.T) {
	j := readJob(t, wordJob)
	w, ok := impl.Play(j, 2, events("0*5"))
	if x := w.Workers[0]; !ok || x.Mode != impl.WkMark || x.Epoch != 1 || x.Ver != 0 || x.At != 1 {
		t.Errorf("after five steps: %s", showWorld(w))
	}
	claimed, _ := impl.Get(w.Store, "claim/0")
	out, _ := impl.Get(w.Store, "out/0/1/0/0")
	if claimed.Data != "0 1 5" || out.Data != impl.RunBytes(w.Workers[0].Runs[0]) || out.Data != impl.RunBytes([]rec{{Key: "a", N: 2}, {Key: "b", N: 1}}) {
		t.Errorf("after five steps: %s", showWorld(w))
	}
	w, ok = impl.Play(j, 2, events("0*32"))
	if keys := impl.List(w.Store, "", "", 100); !ok || !slices.Equal(keys, []string{"in/0", "job", "mark/0", "mark/1", "res/1/1/0"}) {
		t.Errorf("after 32 steps: %q", keys)
	}
	if o, _ := impl.Get(w.Store, "job"); o.Data != "done" {
		t.Errorf("after 32 steps: job contains %q", o.Data)
	}
}

// Each field after each step of the only worker that does anything.
func TestOneWorker(t *testing.T) {
	h := starts(t, wordJob, 2)
	for i, want := range []string{
		"claim",
		"take e1",
		"read e1",
		"write e1 [a=2 b=1]",
		"mark e1 a1 [a=2 b=1] ok/0/0",
		"look e1 a1 [a=2 b=1] ok/0/0",
		"look t1 e1 a1 [a=2 b=1] ok/0/0",
		"claim t1 e1 a1 [a=2 b=1] ok/0/0",
		"take t1 e1 a1 [a=2 b=1] ok/0/0",
		"read t1 e1 ok/0/0",
		"fetch t1 e1 ok/1/0",
		"write t1 e1 [a=2 b=1] ok/1/0",
		"mark t1 e1 a1 [a=2 b=1] ok/1/0",
		"look t1 e1 a1 [a=2 b=1] ok/1/0",
		"finish t2 e1 a1 [a=2 b=1] ok/1/0 +ok/1/0",
		"clean t2 e1 a1 [a=2 b=1] ok/1/0 +ok/1/0",
		"drop t2 e1 a1 [a=2 b=1] ok/1/0 +ok/1/0 :claim/0",
		"delete t2 e1 v1 a1 [a=2 b=1] ok/1/0 +ok/1/0 :claim/0",
		"clean t2 e1 v1 a1 [a=2 b=1] ok/1/0 +ok/1/0 :claim/0",
		"drop t2 e1 v1 a1 [a=2 b=1] ok/1/0 +ok/1/0 :claim/1",
		"delete t2 e1 v1 a1 [a=2 b=1] ok/1/0 +ok/1/0 :claim/1",
		"clean t2 e1 v1 a1 [a=2 b=1] ok/1/0 +ok/1/0 :claim/1",
		"clean t2 e1 v1 a1 [a=2 b=1] ok/1/0 +ok/1/0 :in/0",
		"clean t2 e1 v1 a1 [a=2 b=1] ok/1/0 +ok/1/0 :job",
		"clean t2 e1 v1 a1 [a=2 b=1] ok/1/0 +ok/1/0 :mark/0",
		"clean t2 e1 v1 a1 [a=2 b=1] ok/1/0 +ok/1/0 :mark/1",
		"drop t2 e1 v1 a1 [a=2 b=1] ok/1/0 +ok/1/0 :out/0/1/0/0",
		"delete t2 e1 v1 a1 [a=2 b=1] ok/1/0 +ok/1/0 :out/0/1/0/0",
		"clean t2 e1 v1 a1 [a=2 b=1] ok/1/0 +ok/1/0 :out/0/1/0/0",
		"clean t2 e1 v1 a1 [a=2 b=1] ok/1/0 +ok/1/0 :res/1/1/0",
		"rest t2 e1 v1 a1 [a=2 b=1] ok/1/0 +ok/1/0 :res/1/1/0",
		"rest t2 e1 v1 a1 [a=2 b=1] ok/1/0 +ok/1/0 :res/1/1/0",
	} {
		h.does("0", want)
		if s := showWorker(h.world.Workers[1]); s != "look" {
			t.Fatalf("worker 1 after step %d: %q", i+1, s)
		}
	}
	want := store{
		Objs: []obj{{Key: "in/0", Ver: 1, Data: "a b a\n"}, {Key: "job", Ver: 1, Data: "done"}, {Key: "mark/0", Ver: 1, Data: "ok 1 0"}, {Key: "mark/1", Ver: 1, Data: "ok 1 0"}, {Key: "res/1/1/0", Ver: 1, Data: bytesOf([]rec{{Key: "a", N: 2}, {Key: "b", N: 1}})}},
		Gone: []gone{{Key: "claim/0", Ver: 1}, {Key: "claim/1", Ver: 1}, {Key: "out/0/1/0/0", Ver: 1}},
	}
	if !sameStore(h.world.Store, want) {
		t.Errorf("%s", showStore(h.world.Store))
	}
	h.does("t 0", "rest t2 e1 v1 a1 [a=2 b=1] ok/1/0 +ok/1/0 :res/1/1/0")
	h.allEnd()
}

// Each field after each step with several splits and parts: the runs are
// written one by one, fetched one by one, and each mark is collected.
func TestSplitsAndParts(t *testing.T) {
	h := starts(t, pairJob, 1)
	h.does("0*3", "read e1")
	h.does("0", "write e1 [a=1] [b=1]")
	h.keys("claim/0 in/0 in/1")
	h.does("0", "write e1 a1 [a=1] [b=1]")
	h.keys("claim/0 in/0 in/1 out/0/1/0/0")
	h.does("0", "mark e1 a2 [a=1] [b=1] ok/0/0")
	h.has("out/0/1/0/0", 1, bytesOf([]rec{{Key: "a", N: 1}}))
	h.has("out/0/1/0/1", 1, bytesOf([]rec{{Key: "b", N: 1}}))
	h.does("0", "look e1 a2 [a=1] [b=1] ok/0/0")
	h.has("mark/0", 1, "ok 1 0")
	h.does("0", "look t1 e1 a2 [a=1] [b=1] ok/0/0")
	h.does("t 0*2", "take t1 e1 a2 [a=1] [b=1] ok/0/0")
	h.does("t 0", "read t1 e1 ok/0/0")
	h.has("claim/1", 1, "0 1 7")
	h.does("0", "write t1 e1 [c=1] [b=1] ok/0/0")
	h.does("0*2", "mark t1 e1 a2 [c=1] [b=1] ok/0/0")
	h.does("0*2", "look t2 e1 a2 [c=1] [b=1] ok/0/0")
	h.does("0*3", "read t2 e1 ok/0/0")
	h.does("0", "fetch t2 e1 ok/1/0")
	h.does("0", "read t2 e1 a1 [a=1] ok/1/0")
	h.does("0", "fetch t2 e1 a1 [a=1] ok/1/0")
	h.does("0", "write t2 e1 [a=1 c=1] ok/1/0")
	h.does("0", "mark t2 e1 a1 [a=1 c=1] ok/1/0")
	h.has("res/2/1/0", 1, bytesOf([]rec{{Key: "a", N: 1}, {Key: "c", N: 1}}))
	h.does("0", "look t2 e1 a1 [a=1 c=1] ok/1/0")
	h.does("0", "look t3 e1 a1 [a=1 c=1] ok/1/0 +ok/1/0")
	h.does("0*3", "read t3 e1 ok/1/0 +ok/1/0")
	h.does("0*2", "read t3 e1 a1 [b=1] ok/1/0 +ok/1/0")
	h.does("0*2", "write t3 e1 [b=2] ok/1/0 +ok/1/0")
	h.does("0*2", "look t3 e1 a1 [b=2] ok/1/0 +ok/1/0")
	h.has("res/3/1/0", 1, bytesOf([]rec{{Key: "b", N: 2}}))
	h.does("0", "finish t4 e1 a1 [b=2] ok/1/0 +ok/1/0 +ok/1/0")
	h.does("0", "clean t4 e1 a1 [b=2] ok/1/0 +ok/1/0 +ok/1/0")
	h.clears(0, "in/0 in/1 job mark/0 mark/1 mark/2 mark/3 res/2/1/0 res/3/1/0")
	h.has("job", 1, "done")
	h.allEnd()
}

// A claim holds as long as its Until is greater than Now.
func TestLease(t *testing.T) {
	for _, r := range []struct{ ticks, want string }{
		{"", "look t1 skip"},
		{"t", "look t1 skip"},
		{"t*4", "look t1 skip"},
		{"t*5", "take e2 v1"},
		{"t*6", "take e2 v1"},
		{"t*300", "take e2 v1"},
	} {
		h := starts(t, wordJob, 4)
		h.does("0*3", "read e1")
		h.has("claim/0", 1, "0 1 5")
		h.does(r.ticks+" 3", "claim")
		h.does("3", r.want)
		h.allEnd()
	}
	// Until counts from the step that stores the claim.
	h := starts(t, wordJob, 3)
	h.does("t*2 2*2 t 2", "read e1")
	h.has("claim/0", 1, "2 1 8")
	h.does("t*4 1*2", "look t1 skip")
	h.does("1", "look")
	h.does("t 1*3", "read e2 v1")
	h.has("claim/0", 2, "1 2 13")
	h.does("t*5 0*2", "take e3 v2")
	h.does("t 0", "read e3 v2")
	h.has("claim/0", 3, "0 3 19")
	// A worker does not know its own claim again.
	h.does("x0 0*2", "look t1 skip")
	h.does("x0 t*5 0*2", "take e4 v3")
	h.does("0", "read e4 v3")
	h.has("claim/0", 4, "0 4 24")
	h.allEnd()
}

func TestManyEpochs(t *testing.T) {
	h := starts(t, wordJob, 2)
	for epoch := int64(1); epoch <= 60; epoch++ {
		for _, e := range events(fmt.Sprintf("%d*3 t*5", epoch%2)) {
			h.add(e, epoch > 57)
		}
		h.add(event{Kind: impl.EvCrash, Worker: epoch % 2}, epoch > 57)
	}
	h.has("claim/0", 60, "0 60 300")
	h.does("1*6", "look e61 v60 a1 [a=2 b=1] ok/0/0")
	h.has("out/0/61/1/0", 1, bytesOf([]rec{{Key: "a", N: 2}, {Key: "b", N: 1}}))
	h.has("mark/0", 1, "ok 61 1")
	h.allEnd()
}

// Another worker was faster to create, to replace or to delete a claim.
func TestTakeIsRejected(t *testing.T) {
	h := starts(t, wordJob, 2)
	h.does("0*2 1*2", "take e1")
	h.does("0", "read e1")
	h.does("1", "look t1 skip e1")
	h.has("claim/0", 1, "0 1 5")
	h.does("1", "look")
	h.allEnd()

	h = starts(t, wordJob, 3)
	h.does("0*3 t*5 1*2 2*2", "take e2 v1")
	h.does("1", "read e2 v1")
	h.does("2", "look t1 skip e2 v1")
	h.has("claim/0", 2, "1 2 10")
	h.does("2", "look")
	h.allEnd()

	// The lease of the faster one does not matter, only the version does.
	h = starts(t, wordJob, 2)
	h.does("0*2 1*2 0 t*50 1", "look t1 skip e1")
	h.allEnd()

	// The claim that is to be replaced is gone with all the others.
	h = starts(t, wordJob, 3)
	h.does("0*3 t*5 1*2", "take e2 v1")
	h.does("2*19", "clean t2 e1 v2 a1 [a=2 b=1] ok/2/2 +ok/1/2 :claim/0")
	h.does("1", "look t1 skip e2 v1")
	h.does("1", "look")
	h.clears(2, "in/0 job mark/0 mark/1 res/1/1/2")
	h.allEnd()
}

// With Skip, map tasks are still looked for; the first reduce task without a
// mark, or else the end of the tasks, restarts the worker.
func TestSkip(t *testing.T) {
	h := starts(t, pairJob, 2)
	h.does("0*3 1", "claim")
	h.does("1", "look t1 skip")
	h.does("1", "claim t1 skip")
	h.does("1", "take t1 skip e1")
	h.does("1", "read t1 skip e1")
	h.does("1*5", "look t2 skip e1 a2 [c=1] [b=1] ok/0/0")
	h.keys("claim/0 claim/1 in/0 in/1 mark/1 out/1/1/1/0 out/1/1/1/1")
	h.does("1", "look")
	h.allEnd()

	// A reduce task that has a mark is passed, and the mark collected.
	text := "job sum 3 each\nf0 n1 emit\nsplit 1\na b\n"
	for _, r := range []struct{ steps, last string }{{"0*16", "without a mark"}, {"0*24", "with a mark"}} {
		h = starts(t, text, 2)
		h.does("0*9 1*2", "claim t1")
		for _, e := range events(r.steps) {
			h.add(e, true)
		}
		h.does("1", "look t2 skip")
		h.does("1", "look t3 skip +ok/1/0")
		h.does("1", "look")
		if _, is := impl.Get(h.world.Store, "mark/3"); is != (r.last == "with a mark") {
			t.Errorf("the last task is not %s", r.last)
		}
		h.allEnd()
	}

	// The last task is skipped.
	h = starts(t, wordJob, 2)
	h.does("0*7 1*2", "claim t1")
	h.does("0*3", "read t1 e1 ok/0/0")
	h.does("1", "look")
	h.does("1*2", "claim t1")
	h.does("t*5 1", "take t1 e2 v1")
	h.allEnd()
}

// A worker whose claim is older than the marks of all tasks: the object of
// its claim is created once more, with the first epoch and another version.
func TestLateWorker(t *testing.T) {
	h := starts(t, wordJob, 2)
	h.does("1", "claim")
	h.does("0*16", "clean t2 e1 a1 [a=2 b=1] ok/1/0 +ok/1/0")
	h.clears(0, "in/0 job mark/0 mark/1 res/1/1/0")
	h.does("1", "take e1")
	h.does("1", "read e1")
	h.has("claim/0", 2, "1 1 5")
	h.does("1*2", "mark e1 a1 [a=2 b=1] ok/0/0")
	h.has("out/0/1/1/0", 1, bytesOf([]rec{{Key: "a", N: 2}, {Key: "b", N: 1}}))
	h.does("1", "look e1 a1 [a=2 b=1] ok/0/0")
	h.has("mark/0", 1, "ok 1 0")
	h.does("1*2", "finish t2 e1 a1 [a=2 b=1] ok/0/0 +ok/1/0")
	h.does("1", "clean t2 e1 a1 [a=2 b=1] ok/0/0 +ok/1/0")
	h.has("job", 1, "done")
	h.does("1*2", "delete t2 e1 v2 a1 [a=2 b=1] ok/0/0 +ok/1/0 :claim/0")
	h.does("0", "rest t2 e1 v1 a1 [a=2 b=1] ok/1/0 +ok/1/0 :res/1/1/0")
	h.clears(1, "in/0 job mark/0 mark/1 res/1/1/0")
	h.allEnd()
}

// A worker that was restarted finds the object that it is to write.
func TestWriteIsRejected(t *testing.T) {
	h := starts(t, wordJob, 2)
	h.does("0*5", "mark e1 a1 [a=2 b=1] ok/0/0")
	h.does("x0 t*5 0", "claim")
	h.does("1*19", "clean t2 e1 v2 a1 [a=2 b=1] ok/2/1 +ok/1/1 :claim/0")
	h.does("0*2", "read e1")
	h.has("claim/0", 3, "0 1 10")
	h.does("0*2", "mark e1 a1 [a=2 b=1] ok/0/0")
	h.has("out/0/1/0/0", 1, bytesOf([]rec{{Key: "a", N: 2}, {Key: "b", N: 1}}))
	h.does("0", "look e1 a1 [a=2 b=1] ok/0/0")
	h.has("mark/0", 1, "ok 2 1")
	h.does("0*3", "clean t2 e1 a1 [a=2 b=1] ok/0/0 +ok/1/1")
	h.clears(0, "in/0 job mark/0 mark/1 res/1/1/1")
	h.clears(1, "in/0 job mark/0 mark/1 res/1/1/1")
	h.allEnd()

	h = starts(t, wordJob, 2)
	h.does("0*13", "mark t1 e1 a1 [a=2 b=1] ok/1/0")
	h.does("x0 t*5 0*2", "claim t1")
	h.does("1*9", "finish t2 e2 v1 a1 [a=2 b=1] ok/1/0 +ok/2/1")
	h.does("1*7", "clean t2 e2 v2 a1 [a=2 b=1] ok/1/0 +ok/2/1 :claim/1")
	h.does("0*4", "write t1 e1 [a=2 b=1] ok/1/0")
	h.does("0", "mark t1 e1 a1 [a=2 b=1] ok/1/0")
	h.has("res/1/1/0", 1, bytesOf([]rec{{Key: "a", N: 2}, {Key: "b", N: 1}}))
	h.does("0", "look t1 e1 a1 [a=2 b=1] ok/1/0")
	h.has("mark/1", 1, "ok 2 1")
	h.does("0*2", "clean t2 e1 a1 [a=2 b=1] ok/1/0 +ok/2/1")
	h.clears(1, "claim/1 in/0 job mark/0 mark/1 res/1/2/1")
	h.clears(0, "in/0 job mark/0 mark/1 res/1/2/1")
	h.allEnd()
}

// The mark that is made first is the one that stays.
func TestMarkIsRejected(t *testing.T) {
	h := starts(t, wordJob, 3)
	h.does("0*5 t*5 1*5 t*5 2*5", "mark e3 v2 a1 [a=2 b=1] ok/0/0")
	h.keys("claim/0 in/0 out/0/1/0/0 out/0/2/1/0 out/0/3/2/0")
	h.does("1", "look e2 v1 a1 [a=2 b=1] ok/0/0")
	h.has("mark/0", 1, "ok 2 1")
	h.does("0", "look e1 a1 [a=2 b=1] ok/0/0")
	h.does("2", "look e3 v2 a1 [a=2 b=1] ok/0/0")
	h.has("mark/0", 1, "ok 2 1")
	// The reduce task reads what the mark names, whoever performs it.
	h.does("2*5", "fetch t1 e1 ok/2/1")
	h.does("2", "write t1 e1 [a=2 b=1] ok/2/1")
	h.does("t*5 0*7", "mark t1 e2 v1 a1 [a=2 b=1] ok/2/1")
	h.does("2", "mark t1 e1 a1 [a=2 b=1] ok/2/1")
	h.does("0", "look t1 e2 v1 a1 [a=2 b=1] ok/2/1")
	h.does("2", "look t1 e1 a1 [a=2 b=1] ok/2/1")
	h.has("mark/1", 1, "ok 2 0")
	h.does("2*2", "clean t2 e1 a1 [a=2 b=1] ok/2/1 +ok/2/0")
	h.keys("claim/0 claim/1 in/0 job mark/0 mark/1 out/0/1/0/0 out/0/2/1/0 out/0/3/2/0 res/1/1/2 res/1/2/0")
	h.clears(2, "in/0 job mark/0 mark/1 res/1/2/0")
	h.allEnd()

	h = starts(t, "job sum 1 each\nf0 n1 emit\nsplit 1\n"+longKey(41)+"\n", 2)
	h.does("0*4 t*5 1*4", "mark e2 v1")
	h.does("1", "look e2 v1")
	h.does("0", "look e1")
	h.has("mark/0", 1, "failed 2 1")
	h.does("0", "look t1 bad0 e1")
	h.does("1*4", "read t1 bad0 e1")
	h.does("1", "mark t1 bad0 e1 failed/2/1")
	h.does("1", "look t1 bad0 e1 failed/2/1")
	h.has("mark/1", 1, "failed 1 1")
	h.does("0", "finish t2 bad0 e1 +failed/1/1")
	h.allEnd()
}

// What a reduce task is to fetch is gone: the worker is restarted.
func TestOutIsMissing(t *testing.T) {
	h := starts(t, wordJob, 2)
	h.does("0*7 1*5", "fetch t1 e1 ok/1/0")
	h.does("t*5 0*9", "clean t2 e2 v1 a1 [a=2 b=1] ok/1/0 +ok/2/0")
	h.clears(0, "in/0 job mark/0 mark/1 res/1/2/0")
	h.does("1", "look")
	h.does("1*3", "clean t2 +ok/2/0")
	h.clears(1, "in/0 job mark/0 mark/1 res/1/2/0")
	h.allEnd()

	// The first run was fetched, the second one is gone.
	h = starts(t, pairJob, 2)
	h.does("0*16 1*2", "look t2")
	h.does("1*6", "fetch t2 e1 a1 [a=1] ok/1/0")
	h.does("t*5 0*20", "finish t4 e1 a1 [b=2] ok/1/0 +ok/2/0 +ok/1/0")
	h.does("0", "clean t4 e1 a1 [b=2] ok/1/0 +ok/2/0 +ok/1/0")
	h.clears(0, "in/0 in/1 job mark/0 mark/1 mark/2 mark/3 res/2/2/0 res/3/1/0")
	h.does("1", "look")
	h.allEnd()
}

// A map task fails with EvLong: what was written before is not, and each
// reduce task fails with the first failed mark that it reads.
func TestMapTaskFails(t *testing.T) {
	h := starts(t, "job sum 2 each\nf0 f0 cat n1 emit\nsplit 1\na\nsplit 1\n"+longKey(21)+"\n", 2)
	h.does("0*4", "write e1 [] [aa=1]")
	h.does("0*2", "mark e1 a2 [] [aa=1] ok/0/0")
	h.has("out/0/1/0/0", 1, "")
	h.does("0*4", "take t1 e1 a2 [] [aa=1] ok/0/0")
	h.does("0", "read t1 e1 ok/0/0")
	h.does("0", "mark t1 e1")
	h.does("0", "look t1 e1")
	h.has("mark/1", 1, "failed 1 0")
	h.does("0", "look t2 bad1 e1")
	h.does("0*4", "fetch t2 bad1 e1 ok/1/0")
	h.does("0", "read t2 bad1 e1 a1 [] ok/1/0")
	h.does("0", "mark t2 bad1 e1 a1 [] failed/1/0")
	h.does("0", "look t2 bad1 e1 a1 [] failed/1/0")
	h.has("mark/2", 1, "failed 1 0")
	h.does("0", "look t3 bad1 e1 a1 [] failed/1/0 +failed/1/0")
	h.does("0*3", "read t3 bad1 e1 failed/1/0 +failed/1/0")
	h.does("0*2", "read t3 bad1 e1 a1 [aa=1] ok/1/0 +failed/1/0")
	h.does("0*2", "look t3 bad1 e1 a1 [aa=1] failed/1/0 +failed/1/0")
	h.does("0", "finish t4 bad1 e1 a1 [aa=1] failed/1/0 +failed/1/0 +failed/1/0")
	h.does("0", "clean t4 bad1 e1 a1 [aa=1] failed/1/0 +failed/1/0 +failed/1/0")
	h.has("job", 1, "failed 1")
	h.clears(0, "in/0 in/1 job mark/0 mark/1 mark/2 mark/3")
	h.allEnd()
}

// The first failed mark is the one that counts, whichever is made first.
func TestFirstFailedMark(t *testing.T) {
	long := "split 1\n" + longKey(41) + "\n"
	h := starts(t, "job sum 1 each\nf0 n1 emit\n"+long+"split 0\n"+long, 2)
	h.does("0*3 1*15", "look t3 skip bad2 e1")
	h.has("mark/2", 1, "failed 1 1")
	h.does("1", "look")
	h.does("0*2", "look e1")
	h.does("0*3", "look t3 bad0 e1")
	h.does("0*6", "finish t4 bad0 e1 failed/1/0 +failed/1/0")
	h.does("1*4", "finish t4 bad0 +failed/1/0")
	h.does("1", "clean t4 bad0 +failed/1/0")
	h.has("job", 1, "failed 0")
	h.does("0", "clean t4 bad0 e1 failed/1/0 +failed/1/0")
	h.allEnd()
}

// manyJob is a job whose program emits 601 records for its second split.
func manyJob() job {
	j := wordsJob(impl.CbSum, 1, nil, slices.Repeat([]string{"k"}, 199))
	j.Prog = anyProg("f0 n1 emit f0 n2 emit f0 n3 emit f0 n4 f0 t:x same emitif")
	j.Splits[1] = strings.TrimSuffix(j.Splits[1], "k\n") + "x x\n"
	j.Splits[1] = strings.Replace(j.Splits[1], "k", "x", 2)
	return j
}

// A map task fails with EvMany, the other code that a valid job can have.
func TestMapTaskHasTooManyRecords(t *testing.T) {
	j := manyJob()
	if _, code := impl.MapOf(j, 1); code != impl.EvMany {
		t.Fatalf("MapOf has the code %d", code)
	}
	h := newHistory(t, j, 1)
	h.does("0*7", "look t1 e1 a1 [] ok/0/0")
	h.does("0*3", "read t1 e1 ok/0/0")
	h.does("0", "mark t1 e1")
	h.does("0*2", "look t2 bad1 e1")
	h.does("0*6", "mark t2 bad1 e1 a1 [] failed/1/0")
	h.does("0*3", "clean t3 bad1 e1 a1 [] failed/1/0 +failed/1/0")
	h.has("mark/2", 1, "failed 1 0")
	h.has("job", 1, "failed 1")
	h.clears(0, "in/0 in/1 job mark/0 mark/1 mark/2")
	h.allEnd()
}

// The runs of a reduce task have too many records together.
func TestReduceTaskFails(t *testing.T) {
	full := wordsIn(0, 1, 200)
	h := newHistory(t, threeJob(impl.CbMax, 1, full[:100], full[99:]), 2)
	h.does("0*14", "look t2 e1 a1 [303] ok/0/0")
	h.does("0*6", "fetch t2 e1 a1 [300] ok/1/0")
	h.does("0", "mark t2 e1 a2 [300] [303] failed/1/0")
	h.does("0", "look t2 e1 a2 [300] [303] failed/1/0")
	h.has("mark/2", 1, "failed 1 0")
	h.does("0", "finish t3 bad2 e1 a2 [300] [303] failed/1/0 +failed/1/0")
	h.does("0", "clean t3 bad2 e1 a2 [300] [303] failed/1/0 +failed/1/0")
	h.has("job", 1, "failed 2")
	h.clears(0, "in/0 in/1 job mark/0 mark/1 mark/2")
	h.allEnd()

	// Without one of the records, it does not fail.
	h = newHistory(t, threeJob(impl.CbMax, 1, full[:100], full[100:]), 1)
	h.does("0*20", "fetch t2 e1 a1 [300] ok/1/0")
	h.does("0", "write t2 e1 [600] ok/1/0")
	h.does("0*4", "clean t3 e1 a1 [600] ok/1/0 +ok/1/0")
	h.has("job", 1, "done")
	h.allEnd()
}

// A job whose last reduce task fails keeps the results of the others.
func TestLastReduceTaskFails(t *testing.T) {
	h := newHistory(t, threeJob(impl.CbMin, 3, threeOf(50, 50, 51)...), 2)
	w := h.ends(1)
	if keys := impl.List(w.Store, "", "", 100); strings.Join(keys, " ") != "in/0 in/1 in/2 in/3 job mark/0 mark/1 mark/2 mark/3 mark/4 mark/5 mark/6 res/4/1/1 res/5/1/1" {
		t.Errorf("the objects are %q", keys)
	}
	if o, _ := impl.Get(w.Store, "job"); o.Data != "failed 6" {
		t.Errorf("job contains %q", o.Data)
	}
	if s := showWorker(w.Workers[1]); !strings.HasPrefix(s, "rest t7 bad6 ") || !strings.HasSuffix(s, " +ok/1/1 +ok/1/1 +failed/1/1 :res/5/1/1") {
		t.Errorf("worker 1 is %q", s)
	}
}

// A job that fails by its first, a middle and its last map task, and by two.
func TestFailingTasks(t *testing.T) {
	for mask := 1; mask < 16; mask++ {
		for parts := int64(1); parts <= 3; parts += 2 {
			j := job{Prog: anyProg("f0 n1 emit"), Each: true, Op: impl.CbCount, Parts: parts, Splits: []string{"a\n", "b b\n", "", "c a\n"}}
			first := -1
			for t := range j.Splits {
				if mask>>t&1 == 1 {
					j.Splits[t] += longKey(41) + "\n"
					if first < 0 {
						first = t
					}
				}
			}
			w := newHistory(t, j, 2).ends(0)
			if o, _ := impl.Get(w.Store, "job"); o.Data != fmt.Sprint("failed ", first) {
				t.Errorf("with the failing splits %04b, job contains %q", mask, o.Data)
			}
			for task := range impl.TasksOf(j) {
				want := "ok 1 0"
				if task >= 4 || mask>>task&1 == 1 {
					want = "failed 1 0"
				}
				if o, _ := impl.Get(w.Store, fmt.Sprint("mark/", task)); o.Data != want {
					t.Errorf("with the failing splits %04b, the mark of %d is %q", mask, task, o.Data)
				}
			}
		}
	}
}

// Two workers report the outcome, and delete the same objects, at once.
func TestTwoFinish(t *testing.T) {
	h := starts(t, wordJob, 2)
	h.does("0*15", "finish t2 e1 a1 [a=2 b=1] ok/1/0 +ok/1/0")
	h.does("1*2", "finish t2 +ok/1/0")
	h.does("1", "clean t2 +ok/1/0")
	h.does("0", "clean t2 e1 a1 [a=2 b=1] ok/1/0 +ok/1/0")
	h.has("job", 1, "done")
	// Both delete an object: the second one finds that it is gone.
	h.does("1*2", "delete t2 v1 +ok/1/0 :claim/0")
	h.does("0*2", "delete t2 e1 v1 a1 [a=2 b=1] ok/1/0 +ok/1/0 :claim/0")
	h.does("1", "clean t2 v1 +ok/1/0 :claim/0")
	h.keys("claim/1 in/0 job mark/0 mark/1 out/0/1/0/0 res/1/1/0")
	h.does("0", "clean t2 e1 v1 a1 [a=2 b=1] ok/1/0 +ok/1/0 :claim/0")
	h.keys("claim/1 in/0 job mark/0 mark/1 out/0/1/0/0 res/1/1/0")
	// One deletes an object that the other one is about to look at.
	h.does("1", "drop t2 v1 +ok/1/0 :claim/1")
	h.does("0*3", "clean t2 e1 v1 a1 [a=2 b=1] ok/1/0 +ok/1/0 :claim/1")
	h.does("1", "clean t2 v1 +ok/1/0 :claim/1")
	h.clears(1, "in/0 job mark/0 mark/1 res/1/1/0")
	h.clears(0, "in/0 job mark/0 mark/1 res/1/1/0")
	h.does("1", "rest t2 v1 +ok/1/0 :res/1/1/0")
	h.allEnd()
}

// An object that has another version than the one that was looked at is not
// deleted. The worker that replaced it does so later.
func TestDeleteIsRejected(t *testing.T) {
	h := starts(t, wordJob, 2)
	h.does("0*3 t*5 1*2", "take e2 v1")
	h.does("0*15", "delete t2 e1 v1 a1 [a=2 b=1] ok/1/0 +ok/1/0 :claim/0")
	h.does("1", "read e2 v1")
	h.has("claim/0", 2, "1 2 10")
	h.does("0", "clean t2 e1 v1 a1 [a=2 b=1] ok/1/0 +ok/1/0 :claim/0")
	h.has("claim/0", 2, "1 2 10")
	h.clears(0, "claim/0 in/0 job mark/0 mark/1 res/1/1/0")
	h.does("1*6", "clean t2 e2 v1 a1 [a=2 b=1] ok/0/0 +ok/1/0")
	h.keys("claim/0 in/0 job mark/0 mark/1 out/0/2/1/0 res/1/1/0")
	h.clears(1, "in/0 job mark/0 mark/1 res/1/1/0")
	h.allEnd()
}

// The results that are kept are those of the task, the epoch and the worker of
// the marks: all that differ in one of the three are deleted.
func TestObsoleteResults(t *testing.T) {
	// Another epoch of the same worker.
	h := starts(t, wordJob, 1)
	h.does("0*13 x0 t*5 0*10", "clean t2 e2 v1 a1 [a=2 b=1] ok/1/0 +ok/2/0")
	h.keys("claim/0 claim/1 in/0 job mark/0 mark/1 out/0/1/0/0 res/1/1/0 res/1/2/0")
	h.clears(0, "in/0 job mark/0 mark/1 res/1/2/0")
	h.allEnd()

	// The same epoch of another worker.
	h = starts(t, wordJob, 2)
	h.does("0*7 1*2", "claim t1")
	h.does("0*15", "clean t2 e1 v1 a1 [a=2 b=1] ok/1/0 +ok/1/0 :claim/1")
	h.does("1*7", "finish t2 e1 a1 [a=2 b=1] ok/1/0 +ok/1/0")
	h.does("1", "clean t2 e1 a1 [a=2 b=1] ok/1/0 +ok/1/0")
	h.keys("claim/1 in/0 job mark/0 mark/1 out/0/1/0/0 res/1/1/0 res/1/1/1")
	h.clears(1, "in/0 job mark/0 mark/1 res/1/1/0")
	h.clears(0, "in/0 job mark/0 mark/1 res/1/1/0")
	h.allEnd()

	// The epoch and the worker of the mark of another part.
	h = starts(t, "job sum 2 each\nf0 n1 emit\nsplit 1\na b\n", 2)
	h.does("0*14 t*5 1*7", "mark t1 e2 v1 a1 [a=1] ok/1/0")
	h.does("0", "look t1 e1 a1 [a=1] ok/1/0")
	h.does("1*2", "look t2 e2 v1 a1 [a=1] ok/1/0 +ok/1/0")
	h.does("0*7", "mark t2 e1 a1 [b=1] ok/1/0 +ok/1/0")
	h.does("t*5 1*7", "look t2 e2 v1 a1 [b=1] ok/1/0 +ok/1/0")
	h.does("1*2", "clean t3 e2 v1 a1 [b=1] ok/1/0 +ok/1/0 +ok/2/1")
	h.keys("claim/0 claim/1 claim/2 in/0 job mark/0 mark/1 mark/2 out/0/1/0/0 out/0/1/0/1 res/1/1/0 res/1/2/1 res/2/1/0 res/2/2/1")
	h.clears(1, "in/0 job mark/0 mark/1 mark/2 res/1/1/0 res/2/2/1")
	h.allEnd()
}

// Cleaning leaves alone what is written behind the key it has reached.
func TestCleanGoesOn(t *testing.T) {
	h := starts(t, wordJob, 2)
	h.does("1", "claim")
	h.does("0*24", "clean t2 e1 v1 a1 [a=2 b=1] ok/1/0 +ok/1/0 :job")
	h.does("1*4", "mark e1 a1 [a=2 b=1] ok/0/0")
	h.keys("claim/0 in/0 job mark/0 mark/1 out/0/1/0/0 out/0/1/1/0 res/1/1/0")
	h.clears(0, "claim/0 in/0 job mark/0 mark/1 res/1/1/0")
	// What is gone already is not missed.
	h.does("1*3", "finish t2 e1 a1 [a=2 b=1] ok/0/0 +ok/1/0")
	h.does("1", "clean t2 e1 a1 [a=2 b=1] ok/0/0 +ok/1/0")
	h.clears(1, "in/0 job mark/0 mark/1 res/1/1/0")
	h.allEnd()
}

// A worker at rest that crashes finds all marks, and the outcome, again.
func TestRest(t *testing.T) {
	h := starts(t, wordJob, 2)
	h.does("0*31", "rest t2 e1 v1 a1 [a=2 b=1] ok/1/0 +ok/1/0 :res/1/1/0")
	before := h.world.Store
	h.does("0*20", "rest t2 e1 v1 a1 [a=2 b=1] ok/1/0 +ok/1/0 :res/1/1/0")
	h.does("t*20 0", "rest t2 e1 v1 a1 [a=2 b=1] ok/1/0 +ok/1/0 :res/1/1/0")
	h.does("x0", "look")
	h.does("0*2", "finish t2 +ok/1/0")
	h.does("0", "clean t2 +ok/1/0")
	h.does("0*6", "rest t2 +ok/1/0 :res/1/1/0")
	h.does("1*9", "rest t2 +ok/1/0 :res/1/1/0")
	if !sameStore(before, h.world.Store) {
		t.Errorf("the store was %s and is %s", showStore(before), showStore(h.world.Store))
	}
}

// A crash in each mode restarts the worker and does nothing else.
func TestCrash(t *testing.T) {
	h := starts(t, pairJob, 3)
	h.does("2 x2", "look")
	modes := map[int64]bool{}
	for range 90 {
		before := h.world.Workers[1]
		modes[before.Mode] = true
		crashed := newHistory(t, h.j, 3)
		for _, e := range h.events {
			crashed.add(e, false)
		}
		crashed.does("x1", "look")
		if !sameStore(crashed.world.Store, h.world.Store) || crashed.world.Now != h.world.Now || !sameWorker(crashed.world.Workers[1], restarted()) {
			t.Errorf("a crash of %q leads from %s to %s", showWorker(before), showWorld(h.world), showWorld(crashed.world))
		}
		crashed.does("x1", "look")
		crashed.does("t*5 x1 x0", "look")
		crashed.ends(1)
		crashed.ends(2)
		h.add(event{Kind: impl.EvStep, Worker: 1}, true)
	}
	if len(modes) != 12 {
		t.Errorf("only %d modes", len(modes))
	}
}

// The longest run that an object can contain, of 600 records with 40 bytes in
// each Key.
func TestLongestRuns(t *testing.T) {
	var words []string
	for i := range 200 {
		words = append(words, fmt.Sprintf("%04d", i))
	}
	j := wordsJob(impl.CbSum, 1, words)
	half := strings.Repeat("x", 18)
	one := func(c string) string {
		return strings.ReplaceAll("f0 t:"+half+" cat t:"+half[1:]+c+" cat n1 emit", "x", c)
	}
	j.Prog = anyProg(one("a") + " " + one("b") + " " + one("c"))
	h := newHistory(t, j, 1)
	h.does("0*5", "mark e1 a1 [600] ok/0/0")
	if o, is := impl.Get(h.world.Store, "out/0/1/0/0"); !is || len(o.Data) != 600*49 {
		t.Errorf("the object out has %d bytes", len(o.Data))
	}
	h.does("0*8", "mark t1 e1 a1 [600] ok/1/0")
	h.does("0*3", "clean t2 e1 a1 [600] ok/1/0 +ok/1/0")
	h.clears(0, "in/0 job mark/0 mark/1 res/1/1/0")
	h.allEnd()
}
