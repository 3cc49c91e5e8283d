package tests

import (
	"fmt"
	"math"
	"math/rand"
	"slices"
	"strings"
	"sync"
	"testing"
	"unsafe"

	"loop.example/g00703/impl"
)

// notWorkers are numbers of workers that no world has.
var notWorkers = []int64{0, 5, -1, 6, 256 + 1, 1<<32 + 1, math.MinInt64, math.MaxInt64}

// badEvents are events that are not valid in any world.
func badEvents() []event {
	var bad []event
	for _, kind := range []int64{0, 4, -1, 256 + 1, 1<<32 + 1, math.MinInt64, math.MaxInt64} {
		bad = append(bad, event{Kind: kind}, event{Kind: kind, Worker: 1})
	}
	for _, worker := range []int64{-1, 4, 5, 256, 1 << 32, math.MinInt64, math.MaxInt64} {
		bad = append(bad, event{Kind: impl.EvStep, Worker: worker}, event{Kind: impl.EvCrash, Worker: worker}, event{Kind: impl.EvTick, Worker: worker})
	}
	for worker := int64(1); worker < 4; worker++ {
		bad = append(bad, event{Kind: impl.EvTick, Worker: worker})
	}
	return bad
}

func TestEventOk(t *testing.T) {
	for workers := int64(1); workers <= 4; workers++ {
		for worker := int64(-2); worker < 7; worker++ {
			for kind := int64(-1); kind < 6; kind++ {
				e := event{Kind: kind, Worker: worker}
				want := worker >= 0 && worker < workers && (kind == 1 || kind == 2 || kind == 3 && worker == 0)
				if impl.EventOk(e, workers) != want {
					t.Errorf("EventOk(%v, %d) is not %v", e, workers, want)
				}
			}
		}
		for _, e := range badEvents() {
			if impl.EventOk(e, workers) {
				t.Errorf("EventOk(%v, %d) is true", e, workers)
			}
		}
	}
	// The number of workers is not checked here.
	for _, workers := range []int64{5, 100, math.MaxInt64} {
		for _, e := range events("0 x0 t 4 x4") {
			if !impl.EventOk(e, workers) || impl.EventOk(event{Kind: e.Kind, Worker: -1}, workers) {
				t.Errorf("EventOk of %v, or of worker -1, with %d workers", e, workers)
			}
		}
	}
	// Without workers, there is no worker 0.
	for _, workers := range []int64{0, -1, math.MinInt64} {
		for _, e := range append(events("0 x0 t 1 3"), badEvents()...) {
			if impl.EventOk(e, workers) {
				t.Errorf("EventOk(%v, %d) is true", e, workers)
			}
		}
	}
}

// begun fails if a world is not the document's first one.
func begun(t *testing.T, j job, workers int64, w world, ok bool) {
	t.Helper()
	var want world
	for split, text := range j.Splits {
		want.Store.Objs = append(want.Store.Objs, obj{Key: fmt.Sprint("in/", split), Ver: 1, Data: text})
	}
	want.Workers = slices.Repeat([]worker{{Mode: impl.WkLook, Bad: -1}}, int(workers))
	if !ok || !sameWorld(w, want) {
		t.Errorf("%.300q with %d workers: %s, %v", jobText(j), workers, showWorld(w), ok)
	}
}

func TestBegin(t *testing.T) {
	full := strings.Repeat(strings.Repeat("x", 200)+"\n", 10)
	for n := 1; n <= 4; n++ {
		for workers := int64(1); workers <= 4; workers++ {
			for parts := int64(1); parts <= 3; parts++ {
				j := job{Op: impl.CbMin, Parts: parts, Splits: []string{"", full, "\n", "a b\nc\n"}[:n]}
				w, ok := impl.Begin(j, workers)
				begun(t, j, workers, w, ok)
				for _, none := range [][]event{nil, {}} {
					w, ok = impl.Play(j, workers, none)
					begun(t, j, workers, w, ok)
				}
			}
		}
	}
	for _, text := range jobTexts() {
		j := readJob(t, text)
		w, ok := impl.Begin(j, 2)
		begun(t, j, 2, w, ok)
	}
}

// noWorld fails if Begin or Play returns a world.
func noWorld(t *testing.T, name string, j job, workers int64, l []event) {
	t.Helper()
	if w, ok := impl.Play(j, workers, l); ok || !sameWorld(w, world{}) {
		t.Errorf("%s: Play returns %s, %v", name, showWorld(w), ok)
	}
}

func TestWorldsReject(t *testing.T) {
	j := readJob(t, wordJob)
	for name, bad := range badJobs() {
		for _, workers := range append([]int64{1, 4}, notWorkers...) {
			if w, ok := impl.Begin(bad, workers); ok || !sameWorld(w, world{}) {
				t.Errorf("%s: Begin returns %s, %v", name, showWorld(w), ok)
			}
			noWorld(t, name, bad, workers, nil)
			noWorld(t, name, bad, workers, events("0*3 t"))
			noWorld(t, name, bad, workers, make([]event, 1001))
		}
	}
	for _, workers := range notWorkers {
		if w, ok := impl.Begin(j, workers); ok || !sameWorld(w, world{}) {
			t.Errorf("%d workers: Begin returns %s, %v", workers, showWorld(w), ok)
		}
		for _, l := range [][]event{nil, events("t"), events("0*3 t x0"), badEvents(), make([]event, 1001)} {
			noWorld(t, fmt.Sprint(workers, " workers"), j, workers, l)
		}
	}
	for workers := int64(1); workers <= 4; workers++ {
		bad := badEvents()
		for worker := workers; worker < 6; worker++ {
			bad = append(bad, event{Kind: impl.EvStep, Worker: worker}, event{Kind: impl.EvCrash, Worker: worker})
		}
		good := events("0*9 t*5 x0 0*3")
		for _, e := range bad {
			name := fmt.Sprint("the event ", e)
			noWorld(t, name, j, workers, []event{e})
			noWorld(t, name, j, workers, append(slices.Clone(good), e))
			noWorld(t, name, j, workers, append([]event{e}, good...))
			noWorld(t, name, j, workers, slices.Concat(good, []event{e}, good))
			noWorld(t, name, j, workers, append(events("t*999"), e))
		}
	}
}

func TestEventLimit(t *testing.T) {
	for _, text := range []string{"t", "0", "x0", "0 t", "0 1 2 3", "0*3 x0 t*6", "3*40 x3 t*5 2*40 x2 t*5"} {
		l := slices.Repeat(events(text), 1001)
		h := newHistory(t, readJob(t, pairJob), 4)
		for _, e := range l[:999] {
			h.add(e, false)
		}
		h.add(l[999], true)
		noWorld(t, text, h.j, 4, l[:1001])
		noWorld(t, text, h.j, 4, l)
	}
	w, ok := impl.Play(readJob(t, wordJob), 1, events("t*997 0*3"))
	if o, _ := impl.Get(w.Store, "claim/0"); !ok || w.Now != 997 || o.Data != "0 1 1002" {
		t.Errorf("after 997 ticks: %s", showWorld(w))
	}
}

// lightJobs are jobs with few records: some succeed, some fail by one task or
// by several ones.
func lightJobs(t *testing.T) []job {
	t.Helper()
	var jobs []job
	long := "split 2\na\n" + longKey(41) + "\n"
	for _, text := range []string{
		wordJob, pairJob, exampleJob,
		"job min 3 line\nf0 f1 int emit\nsplit 2\na 5\nb 3\nsplit 0\nsplit 1\na 4\nsplit 2\nb -1\nc 0\n",
		"job max 1 line\n\nsplit 0\n",
		"job sum 3 each\nt: n9223372036854775807 emit f0 f0 len emit\nsplit 1\nx y z\nsplit 1\ny y\n",
		"job sum 1 each\nf0 n1 emit\n" + long,
		"job count 2 each\nf0 n1 emit\nsplit 1\na\n" + long,
		"job max 2 each\nf0 n1 emit\n" + long + "split 0\n" + long,
		"job min 3 each\nf0 n1 emit\nsplit 1\na b\nsplit 0\nsplit 1\nc\n" + long,
	} {
		jobs = append(jobs, readJob(t, text))
	}
	return jobs
}

// heavyJobs are jobs with many records.
func heavyJobs() []job {
	full := wordsIn(0, 1, 200)
	return []job{
		manyJob(),
		threeJob(impl.CbMax, 1, full[:100], full[99:]),
		threeJob(impl.CbCount, 1, full[:100], full[100:]),
		threeJob(impl.CbMin, 3, threeOf(50, 50, 51)...),
		threeJob(impl.CbSum, 3, threeOf(51, 50, 51)...),
		threeJob(impl.CbSum, 3, threeOf(50, 50, 50)...),
	}
}

// randomEvents returns events of a random pace: in some of the lists a worker
// makes many steps at a time, time hardly advances, or nobody crashes.
func randomEvents(random *rand.Rand, workers int64, n int) []event {
	burst := 1 + random.Intn(1<<random.Intn(6))
	ticks := random.Float64() * random.Float64() / 2
	crashes := random.Float64() * random.Float64() / 8
	var l []event
	for len(l) < n {
		worker := random.Int63n(workers)
		for range 1 + random.Intn(burst) {
			l = append(l, event{Kind: impl.EvStep, Worker: worker})
			if random.Float64() < ticks {
				l = append(l, slices.Repeat([]event{{Kind: impl.EvTick}}, 1+random.Intn(6))...)
			}
		}
		if random.Float64() < crashes*float64(burst) {
			l = append(l, event{Kind: impl.EvCrash, Worker: worker})
		}
	}
	return l[:n]
}

// Promise 9 at each of many events: the worlds are those of the model, a mark
// never changes, no reduce task is claimed as long as a split has no mark, an
// event changes at most one object, and an outcome is the result of the job.
// After 200 steps of any worker there is one.
func TestPromisesOfLightJobs(t *testing.T) {
	random := rand.New(rand.NewSource(15))
	early, late := 0, 0
	for _, j := range lightJobs(t) {
		for workers := int64(1); workers <= 4; workers++ {
			for _, n := range []int{30, 90, 180} {
				h := newHistory(t, j, workers)
				for _, e := range randomEvents(random, workers, n) {
					h.add(e, true)
				}
				if h.answers(h.world) {
					late++
				} else {
					early++
				}
				h.allEnd()
			}
		}
	}
	if early < 30 || late < 30 {
		t.Errorf("%d histories stop before an outcome, %d after", early, late)
	}
}

// The same for histories as long as they can be before 200 steps with ticks.
func TestPromisesOfLongHistories(t *testing.T) {
	random := rand.New(rand.NewSource(16))
	for _, j := range lightJobs(t) {
		for workers := int64(1); workers <= 4; workers++ {
			h := newHistory(t, j, workers)
			for _, e := range randomEvents(random, workers, 600) {
				h.add(e, random.Intn(60) == 0)
			}
			h.allEnd()
		}
	}
}

func TestPromisesOfHeavyJobs(t *testing.T) {
	random := rand.New(rand.NewSource(17))
	for _, j := range heavyJobs() {
		for range 2 {
			h := newHistory(t, j, 1+random.Int63n(4))
			for _, e := range randomEvents(random, h.workers(), 40+random.Intn(160)) {
				h.add(e, random.Intn(15) == 0)
			}
			h.ends(random.Int63n(h.workers()))
		}
	}
}

// Every history of up to six further events of two workers, from the start, from a
// point at which a lease is about to end, and from one at which a worker is
// late for its task while the other one is about to report the outcome.
func TestPromisesOfShortHistories(t *testing.T) {
	j := readJob(t, wordJob)
	for _, start := range []string{"", "0*3 t*4 1", "0*7 1*2 0*6"} {
		var follow func(h *history, n int)
		follow = func(h *history, n int) {
			if n == 0 {
				return
			}
			for _, e := range events("0 1 t x0 x1") {
				next := *h
				next.events = slices.Clone(h.events)
				next.model = h.model.clone()
				next.add(e, true)
				follow(&next, n-1)
			}
		}
		h := newHistory(t, j, 2)
		for _, e := range events(start) {
			h.add(e, true)
		}
		follow(h, 6)
	}
}

// place is the memory behind a list, up to its capacity. The list is kept, as
// otherwise a later one could be given the same memory.
type place struct {
	name     string
	list     any
	from, to uintptr
}

func placeOf[T any](name string, l []T) place {
	from := uintptr(unsafe.Pointer(unsafe.SliceData(l)))
	return place{name: name, list: l, from: from, to: from + uintptr(cap(l))*unsafe.Sizeof(*new(T))}
}

// placesOf returns the memory of all lists of a world.
func placesOf(name string, w world) []place {
	places := []place{placeOf(name+" objects", w.Store.Objs), placeOf(name+" deleted objects", w.Store.Gone), placeOf(name+" workers", w.Workers)}
	for i, one := range w.Workers {
		of := fmt.Sprint(name, " worker ", i)
		places = append(places, placeOf(of+" runs", one.Runs), placeOf(of+" marks", one.Marks))
		for r, run := range one.Runs {
			places = append(places, placeOf(fmt.Sprint(of, " run ", r), run))
		}
	}
	return places
}

// apart fails if two of the lists share memory.
func apart(t *testing.T, places []place) {
	t.Helper()
	for i, a := range places {
		for _, b := range places[:i] {
			if a.from < b.to && b.from < a.to {
				t.Errorf("%s and %s share memory", a.name, b.name)
			}
		}
	}
}

// Promise 15: no argument is modified, nor what is behind it, and no two lists
// of one world, or of two worlds, or of a world and an argument share memory.
func TestWorldsMemory(t *testing.T) {
	for _, j := range []job{readJob(t, pairJob), readJob(t, "job max 2 each\nf0 n1 emit\nsplit 1\na b c\nsplit 1\n"+longKey(41)+"\n"), threeJob(impl.CbMin, 3, threeOf(50, 50, 51)...), {}, badJobs()["op 0"]} {
		long := slices.Concat(events("0*20 1*20 t*5 2*40 x1 1*30 t*5"), events("3*200"))
		use := func(j job) {
			impl.Begin(j, 4)
			impl.Begin(j, 5)
			impl.Play(j, 4, long)
		}
		keepsJob(t, j, use)
		for _, l := range [][]event{long, long[:3], append(slices.Clone(long), event{}), make([]event, 1001)} {
			keeps(t, "Play", l, event{Kind: impl.EvStep}, func(l []event) { impl.Play(j, 4, l) })
			keeps(t, "Play", l, event{Kind: 9}, func(l []event) { impl.Play(j, 3, l) })
		}
		if !impl.JobOk(j) {
			continue
		}
		arguments := []place{placeOf("Prog", j.Prog), placeOf("Splits", j.Splits), placeOf("events", long)}
		for n := range long {
			first, _ := impl.Play(j, 4, long[:n])
			second, _ := impl.Play(j, 4, long[:n])
			begun, _ := impl.Begin(j, 4)
			apart(t, slices.Concat(arguments, placesOf("first", first), placesOf("second", second), placesOf("begun", begun)))
			if !sameWorld(first, second) {
				t.Fatalf("after %q: %s, then %s", showEvents(long[:n]), showWorld(first), showWorld(second))
			}
		}
	}
}

// Promise 15: equal arguments yield equal results, also at the same time.
func TestWorldsAreRepeated(t *testing.T) {
	random := rand.New(rand.NewSource(18))
	for _, j := range append(lightJobs(t), heavyJobs()[3]) {
		l := randomEvents(random, 3, 300)
		want, _ := impl.Play(j, 3, l)
		var running sync.WaitGroup
		for range 8 {
			running.Go(func() {
				for range 5 {
					if w, ok := impl.Play(j, 3, l); !ok || !sameWorld(w, want) {
						t.Errorf("%s, then %s", showWorld(want), showWorld(w))
					}
				}
			})
		}
		running.Wait()
	}
}
