package tests

import (
	"fmt"
	"maps"
	"slices"
	"strconv"
	"strings"
	"testing"

	"loop.example/g00703/impl"
)

type (
	event  = impl.Event
	worker = impl.Worker
	world  = impl.World
)

var modeNames = map[int64]string{
	impl.WkLook: "look", impl.WkClaim: "claim", impl.WkTake: "take", impl.WkRead: "read", impl.WkFetch: "fetch", impl.WkWrite: "write",
	impl.WkMark: "mark", impl.WkFinish: "finish", impl.WkClean: "clean", impl.WkDrop: "drop", impl.WkDelete: "delete", impl.WkRest: "rest",
}

// events returns the events that the words of a text name: 1 is a step of
// worker 1, x1 its crash, t a tick, and 1*3 stands for three steps.
func events(text string) []event {
	var l []event
	for _, word := range strings.Fields(text) {
		name, number, repeated := strings.Cut(word, "*")
		n := 1
		if repeated {
			n, _ = strconv.Atoi(number)
		}
		e := event{Kind: impl.EvStep}
		if name == "t" {
			e.Kind = impl.EvTick
		} else {
			digit, crash := strings.CutPrefix(name, "x")
			if crash {
				e.Kind = impl.EvCrash
			}
			e.Worker, _ = strconv.ParseInt(digit, 10, 64)
		}
		l = append(l, slices.Repeat([]event{e}, n)...)
	}
	return l
}

// showEvents returns a text of which events returns these events.
func showEvents(l []event) string {
	var words []string
	for i := 0; i < len(l); {
		n := 1
		for i+n < len(l) && l[i+n] == l[i] {
			n++
		}
		word := map[int64]string{impl.EvStep: "", impl.EvCrash: "x", impl.EvTick: "t"}[l[i].Kind]
		if l[i].Kind != impl.EvTick {
			word += fmt.Sprint(l[i].Worker)
		}
		if n > 1 {
			word += fmt.Sprint("*", n)
		}
		words = append(words, word)
		i += n
	}
	return strings.Join(words, " ")
}

func sameWorker(a, b worker) bool {
	return a.Mode == b.Mode && a.Task == b.Task && a.Skip == b.Skip && a.Bad == b.Bad && a.Epoch == b.Epoch && a.Ver == b.Ver && a.At == b.At &&
		sameRuns(a.Runs, b.Runs) && a.Mark == b.Mark && slices.Equal(a.Marks, b.Marks) && a.Key == b.Key
}

func sameWorld(a, b world) bool {
	return a.Now == b.Now && sameStore(a.Store, b.Store) && slices.EqualFunc(a.Workers, b.Workers, sameWorker)
}

func showMark(m mark) string {
	return strings.ReplaceAll(markText(m), " ", "/")
}

// showRun shows the records of a short run, and the number of those of a long one.
func showRun(run []rec) string {
	if len(run) > 4 {
		return fmt.Sprint("[", len(run), "]")
	}
	var recs []string
	for _, r := range run {
		recs = append(recs, fmt.Sprint(r.Key, "=", r.N))
	}
	return "[" + strings.Join(recs, " ") + "]"
}

// showWorker returns the name of a worker's mode, and each field that is not
// as it is after a restart: t with Task, skip, bad with Bad, e with Epoch, v
// with Ver, a with At, the runs, the Mark, a plus sign with each of Marks, and
// the Key behind a colon.
func showWorker(w worker) string {
	text := modeNames[w.Mode]
	add := func(is bool, v ...any) {
		if is {
			text += " " + fmt.Sprint(v...)
		}
	}
	add(w.Task != 0, "t", w.Task)
	add(w.Skip, "skip")
	add(w.Bad != -1, "bad", w.Bad)
	add(w.Epoch != 0, "e", w.Epoch)
	add(w.Ver != 0, "v", w.Ver)
	add(w.At != 0, "a", w.At)
	for _, run := range w.Runs {
		add(true, showRun(run))
	}
	add(w.Mark != (mark{}), showMark(w.Mark))
	for _, m := range w.Marks {
		add(true, "+", showMark(m))
	}
	add(w.Key != "", ":", w.Key)
	return text
}

func showWorld(w world) string {
	text := fmt.Sprintf("now %d, %s", w.Now, showStore(w.Store))
	for _, one := range w.Workers {
		text += "; " + showWorker(one)
	}
	return text
}

// worldModel is the document's world: it follows the table of chapter 9 with
// a store that is a map. The names and texts are written by fmt.
type worldModel struct {
	j       job
	now     int64
	objects modelStore
	workers []worker
}

func restarted() worker { return worker{Mode: impl.WkLook, Bad: -1} }

func newWorldModel(j job, workers int64) *worldModel {
	m := &worldModel{j: j, objects: newModel(), workers: slices.Repeat([]worker{restarted()}, int(workers))}
	for t, split := range j.Splits {
		m.create(fmt.Sprint("in/", t), split)
	}
	return m
}

func (m *worldModel) world() world {
	return world{Now: m.now, Store: m.objects.store(), Workers: m.workers}
}

// clone returns a model that goes on by itself.
func (m *worldModel) clone() *worldModel {
	other := *m
	other.objects = modelStore{data: maps.Clone(m.objects.data), ver: maps.Clone(m.objects.ver)}
	other.workers = slices.Clone(m.workers)
	for i := range other.workers {
		other.workers[i].Runs = slices.Clip(other.workers[i].Runs)
		other.workers[i].Marks = slices.Clip(other.workers[i].Marks)
	}
	return &other
}

func (m *worldModel) create(key, data string) bool {
	_, code := m.objects.do(create(key, data))
	return code == impl.SoOk
}

// mark returns the mark of a task, if there is one.
func (m *worldModel) mark(task int64) (found mark, is bool) {
	data, is := m.objects.data[fmt.Sprint("mark/", task)]
	if !is {
		return mark{}, false
	}
	word := ""
	if n, err := fmt.Sscanf(data, "%s %d %d", &word, &found.Epoch, &found.Worker); n != 3 || err != nil {
		panic("a mark that is none: " + data)
	}
	found.Ok = word == "ok"
	return found, true
}

// advance advances a worker, whose Skip becomes true if the task is skipped.
func (m *worldModel) advance(w *worker, skipped bool) {
	w.Skip = w.Skip || skipped
	w.Task++
	w.Mode = impl.WkLook
	if w.Task == int64(len(m.j.Splits))+m.j.Parts {
		w.Mode = impl.WkFinish
		if w.Skip {
			*w = restarted()
		}
	}
}

func (m *worldModel) perform(e event) {
	switch e.Kind {
	case impl.EvTick:
		m.now++
	case impl.EvCrash:
		m.workers[e.Worker] = restarted()
	case impl.EvStep:
		w := &m.workers[e.Worker]
		if w.Mode <= impl.WkTake {
			m.stepToTask(w, e.Worker)
		} else if w.Mode <= impl.WkMark {
			m.stepOfTask(w, e.Worker, w.Task-int64(len(m.j.Splits)))
		} else {
			m.stepToEnd(w)
		}
	}
}

// stepToTask is a step in the modes in which a worker has no task yet.
func (m *worldModel) stepToTask(w *worker, number int64) {
	key := fmt.Sprint("claim/", w.Task)
	reduces := w.Task >= int64(len(m.j.Splits))
	switch w.Mode {
	case impl.WkLook:
		found, is := m.mark(w.Task)
		if !is {
			w.Mode = impl.WkClaim
			if reduces && w.Skip {
				*w = restarted()
			}
			return
		}
		if !found.Ok && w.Bad == -1 {
			w.Bad = w.Task
		}
		if reduces {
			w.Marks = append(w.Marks, found)
		}
		m.advance(w, false)
	case impl.WkClaim:
		data, is := m.objects.data[key]
		var owner, epoch, until int64
		fmt.Sscan(data, &owner, &epoch, &until)
		if is && until > m.now {
			m.advance(w, true)
			return
		}
		w.Mode, w.Epoch, w.Ver = impl.WkTake, 1, 0
		if is {
			w.Epoch, w.Ver = epoch+1, m.objects.ver[key]
		}
	case impl.WkTake:
		c := put(key, w.Ver, fmt.Sprint(number, " ", w.Epoch, " ", m.now+5))
		if w.Ver == 0 {
			c.Kind = impl.CmCreate
		}
		if _, code := m.objects.do(c); code != impl.SoOk {
			m.advance(w, true)
			return
		}
		w.Mode, w.At, w.Runs = impl.WkRead, 0, nil
	}
}

// stepOfTask is a step in the modes in which a worker performs a task. The
// part is negative for a map task.
func (m *worldModel) stepOfTask(w *worker, number, part int64) {
	switch {
	case w.Mode == impl.WkRead && part < 0:
		runs, code := mapModel(m.j, int(w.Task))
		if code != impl.EvOk {
			w.Mode, w.Mark.Ok = impl.WkMark, false
			return
		}
		w.Mode, w.Runs, w.At = impl.WkWrite, runs, 0
	case w.Mode == impl.WkRead:
		w.Mark, _ = m.mark(w.At)
		w.Mode = map[bool]int64{false: impl.WkMark, true: impl.WkFetch}[w.Mark.Ok]
	case w.Mode == impl.WkFetch:
		m.fetch(w, part)
	case w.Mode == impl.WkWrite && part < 0:
		m.create(fmt.Sprintf("out/%d/%d/%d/%d", w.Task, w.Epoch, number, w.At), bytesOf(w.Runs[w.At]))
		w.At++
		if w.At == m.j.Parts {
			w.Mode, w.Mark.Ok = impl.WkMark, true
		}
	case w.Mode == impl.WkWrite:
		m.create(fmt.Sprintf("res/%d/%d/%d", w.Task, w.Epoch, number), bytesOf(w.Runs[0]))
		w.Mode, w.Mark.Ok, w.At = impl.WkMark, true, w.At+1
	case w.Mode == impl.WkMark:
		m.create(fmt.Sprint("mark/", w.Task), markText(mark{Ok: w.Mark.Ok, Epoch: w.Epoch, Worker: number}))
		w.Mode = impl.WkLook
	}
}

func (m *worldModel) fetch(w *worker, part int64) {
	data, is := m.objects.data[fmt.Sprintf("out/%d/%d/%d/%d", w.At, w.Mark.Epoch, w.Mark.Worker, part)]
	if !is {
		*w = restarted()
		return
	}
	run, ok := impl.ReadRun(data)
	if !ok {
		panic("an object out that contains no run")
	}
	w.Mode, w.Runs, w.At = impl.WkRead, append(slices.Clip(w.Runs), run), w.At+1
	if w.At < int64(len(m.j.Splits)) {
		return
	}
	all := slices.Concat(w.Runs...)
	if len(all) > 600 {
		w.Mode, w.Mark.Ok = impl.WkMark, false
		return
	}
	numbers := map[string][]int64{}
	for _, r := range all {
		numbers[r.Key] = append(numbers[r.Key], r.N)
	}
	w.Mode, w.Runs, w.At = impl.WkWrite, [][]rec{runsOf(m.j, numbers)[part]}, 0
}

// stepToEnd is a step in the modes in which a worker has found all marks.
func (m *worldModel) stepToEnd(w *worker) {
	switch w.Mode {
	case impl.WkFinish:
		text := "done"
		if w.Bad >= 0 {
			text = fmt.Sprint("failed ", w.Bad)
		}
		m.create("job", text)
		w.Mode, w.Key = impl.WkClean, ""
	case impl.WkClean:
		keys := slices.Sorted(maps.Keys(m.objects.data))
		after, is := slices.BinarySearch(keys, w.Key)
		if is {
			after++
		}
		if after == len(keys) {
			w.Mode = impl.WkRest
			return
		}
		w.Key = keys[after]
		if m.obsolete(w.Key, w.Marks) {
			w.Mode = impl.WkDrop
		}
	case impl.WkDrop:
		w.Mode = impl.WkClean
		if _, is := m.objects.data[w.Key]; is {
			w.Mode, w.Ver = impl.WkDelete, m.objects.ver[w.Key]
		}
	case impl.WkDelete:
		m.objects.do(del(w.Key, w.Ver))
		w.Mode = impl.WkClean
	}
}

func (m *worldModel) obsolete(key string, marks []mark) bool {
	kept := []string{"job"}
	for p, found := range marks {
		kept = append(kept, fmt.Sprintf("res/%d/%d/%d", len(m.j.Splits)+p, found.Epoch, found.Worker))
	}
	return key[:3] != "in/" && !strings.HasPrefix(key, "mark/") && !slices.Contains(kept, key)
}

// outcome returns what the object job reports, as chapter 10 says it, and
// false if there is no such object.
func outcome(t *testing.T, j job, s store) (r result, is bool) {
	t.Helper()
	o, is := impl.Get(s, "job")
	if !is {
		return result{}, false
	}
	if n, _ := fmt.Sscanf(o.Data, "failed %d", &r.Task); n == 1 && o.Data == fmt.Sprint("failed ", r.Task) {
		r.Failed = true
		return r, true
	}
	if o.Data != "done" {
		t.Errorf("job contains %q", o.Data)
	}
	r.Done = true
	for p := range j.Parts {
		task := int64(len(j.Splits)) + p
		o, _ := impl.Get(s, fmt.Sprint("mark/", task))
		m, marked := impl.ReadMark(o.Data)
		o, written := impl.Get(s, fmt.Sprintf("res/%d/%d/%d", task, m.Epoch, m.Worker))
		run, ok := impl.ReadRun(o.Data)
		if !marked || !m.Ok || !written || !ok {
			t.Errorf("job contains %q, but part %d has the mark %v, %v, and a result %v, %v", "done", p, m, marked, written, ok)
		}
		r.Out = append(r.Out, run)
	}
	return r, true
}

// elementsOf returns the objects and the deleted objects of a store by key.
func elementsOf(s store) map[string]string {
	l := map[string]string{}
	for _, o := range s.Objs {
		l[o.Key] = fmt.Sprint(o.Ver, " ", o.Data)
	}
	for _, g := range s.Gone {
		l[g.Key] = fmt.Sprint(g.Ver, " is deleted")
	}
	return l
}

// changedKeys returns the keys whose elements differ.
func changedKeys(before, after store) []string {
	was, is := elementsOf(before), elementsOf(after)
	var keys []string
	for _, key := range slices.Sorted(maps.Keys(is)) {
		if data, known := was[key]; !known || data != is[key] {
			keys = append(keys, key)
		}
	}
	for _, key := range slices.Sorted(maps.Keys(was)) {
		if _, known := is[key]; !known {
			keys = append(keys, key)
		}
	}
	return keys
}

// eventKeeps fails if an event breaks a part of promise 9 that can be seen
// from the worlds before and after it.
func eventKeeps(t *testing.T, j job, before, after world, e event) {
	t.Helper()
	keys := changedKeys(before.Store, after.Store)
	if len(keys) > 1 || len(keys) == 1 && e.Kind != impl.EvStep {
		t.Fatalf("the event %v changes the objects %q", e, keys)
	}
	if !impl.StoreOk(after.Store) {
		t.Fatalf("the store is not valid: %s", showWorld(after))
	}
	for _, key := range keys {
		if o, is := impl.Get(before.Store, key); is && (strings.HasPrefix(key, "mark/") || strings.HasPrefix(key, "in/") || key == "job") {
			t.Fatalf("the event %v changes %v", e, o)
		}
		if text, is := strings.CutPrefix(key, "claim/"); is {
			claimsRightly(t, j, before, after, text)
		}
	}
	if after.Now < before.Now || (after.Now > before.Now) != (e.Kind == impl.EvTick) {
		t.Fatalf("the event %v leads from the time %d to %d", e, before.Now, after.Now)
	}
	for i := range after.Workers {
		if (int64(i) != e.Worker || e.Kind == impl.EvTick) && !sameWorker(before.Workers[i], after.Workers[i]) {
			t.Fatalf("the event %v changes worker %d: %s, then %s", e, i, showWorker(before.Workers[i]), showWorker(after.Workers[i]))
		}
	}
}

// claimsRightly fails if the claim of a task is changed by a worker that is
// not allowed to: before all splits have marks, or while the lease lasts.
func claimsRightly(t *testing.T, j job, before, after world, task string) {
	t.Helper()
	if _, is := impl.Get(after.Store, "claim/"+task); !is {
		return
	}
	if o, is := impl.Get(before.Store, "claim/"+task); is {
		if c, ok := impl.ReadClaim(o.Data); !ok || c.Until > before.Now {
			t.Fatalf("the claim %q of task %s is replaced at the time %d", o.Data, task, before.Now)
		}
	}
	n, _ := strconv.Atoi(task)
	for split := range j.Splits {
		if _, is := impl.Get(before.Store, fmt.Sprint("mark/", split)); !is && n >= len(j.Splits) {
			t.Fatalf("the reduce task %s is claimed, but split %d has no mark", task, split)
		}
	}
}

// history plays events one after another and compares each world with the
// model, and with the world before it. It knows the result of its job. The
// world is the one after the first seen events.
type history struct {
	t      *testing.T
	j      job
	want   result
	events []event
	model  *worldModel
	world  world
	seen   int
}

func newHistory(t *testing.T, j job, workers int64) *history {
	t.Helper()
	w, ok := impl.Begin(j, workers)
	h := &history{t: t, j: j, want: resultModel(j), model: newWorldModel(j, workers), world: w}
	if !ok || !sameWorld(w, h.model.world()) {
		t.Fatalf("Begin of %.300q with %d workers: %s, %v", jobText(j), workers, showWorld(w), ok)
	}
	return h
}

func (h *history) workers() int64 { return int64(len(h.model.workers)) }

// play returns the world after these events.
func (h *history) play(l []event) world {
	h.t.Helper()
	w, ok := impl.Play(h.j, h.workers(), l)
	if !ok {
		h.t.Fatalf("Play of %d events is false", len(l))
	}
	return w
}

// add adds an event to the history; only if it is looked at, it is played.
func (h *history) add(e event, look bool) {
	h.t.Helper()
	if look && h.seen < len(h.events) {
		h.world = h.play(h.events)
	}
	before := h.world
	h.events = append(h.events, e)
	h.model.perform(e)
	if !look {
		return
	}
	h.world, h.seen = h.play(h.events), len(h.events)
	if want := h.model.world(); !sameWorld(h.world, want) {
		h.t.Fatalf("%.300q after %q: %s\ninstead of %s", jobText(h.j), showEvents(h.events), showWorld(h.world), showWorld(want))
	}
	eventKeeps(h.t, h.j, before, h.world, e)
	h.answers(h.world)
	boardsKeep(h.t, h.j, before, h.world)
}

// answers fails if there is an outcome other than the result of the job, or
// OutcomeOf returns anything but the outcome.
func (h *history) answers(w world) (is bool) {
	h.t.Helper()
	r, is := outcome(h.t, h.j, w.Store)
	if is && !sameResult(r, h.want) {
		h.t.Fatalf("%.300q after %q: the outcome is %v instead of %v", jobText(h.j), showEvents(h.events), r, h.want)
	}
	if got := impl.OutcomeOf(h.j, w.Store); !sameResult(got, r) {
		h.t.Fatalf("%.300q after %q: OutcomeOf returns %v instead of %v", jobText(h.j), showEvents(h.events), got, r)
	}
	return is
}

// ends fails if 200 steps of a worker with a tick before each, after what has
// happened, do not lead to an outcome.
func (h *history) ends(number int64) world {
	h.t.Helper()
	l := slices.Concat(h.events, slices.Repeat([]event{{Kind: impl.EvTick}, {Kind: impl.EvStep, Worker: number}}, 200))
	w := h.play(l)
	if !h.answers(w) {
		h.t.Fatalf("%.300q after %q: no outcome after 200 steps of worker %d: %s", jobText(h.j), showEvents(h.events), number, showWorld(w))
	}
	return w
}

// allEnd fails if not each of the workers comes to an outcome.
func (h *history) allEnd() {
	h.t.Helper()
	for number := range h.workers() {
		h.ends(number)
	}
}

// does plays events and fails if then the worker that the last one names is
// not as showWorker shows it.
func (h *history) does(text string, want string) {
	h.t.Helper()
	for _, e := range events(text) {
		h.add(e, true)
	}
	last := h.events[len(h.events)-1]
	if s := showWorker(h.world.Workers[last.Worker]); s != want {
		h.t.Fatalf("worker %d after %q is %q instead of %q", last.Worker, showEvents(h.events), s, want)
	}
}

// has fails if the store has no such object.
func (h *history) has(key string, ver int64, data string) {
	h.t.Helper()
	if o, is := impl.Get(h.world.Store, key); !is || o.Ver != ver || o.Data != data {
		h.t.Fatalf("after %q: %q is %v, %v", showEvents(h.events), key, o, is)
	}
}

// keys fails if these are not the keys of all objects.
func (h *history) keys(text string) {
	h.t.Helper()
	if l := impl.List(h.world.Store, "", "", 100); strings.Join(l, " ") != text {
		h.t.Fatalf("after %q: the objects are %q", showEvents(h.events), l)
	}
}
