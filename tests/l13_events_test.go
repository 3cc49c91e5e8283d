package tests

import (
	"fmt"
	"math"
	"math/rand"
	"regexp"
	"slices"
	"strconv"
	"strings"
	"sync"
	"testing"

	"loop.example/g00703/impl"
)

// sequenceForm is a line of the text of events, apart from the least and the
// greatest number.
var sequenceForm = regexp.MustCompile(`^(0|[1-9][0-9]*) (?:(tick)|(step|crash) ([0-3]))$`)

// everyEvent are the events that are valid for four workers.
func everyEvent() []event {
	l := []event{{Kind: impl.EvTick}}
	for worker := range int64(4) {
		l = append(l, event{Kind: impl.EvStep, Worker: worker}, event{Kind: impl.EvCrash, Worker: worker})
	}
	return l
}

// eventText is the document's text of an event, whether it is valid or not.
func eventText(e event) string {
	switch {
	case e == event{Kind: impl.EvTick}:
		return "tick"
	case e.Kind == impl.EvStep || e.Kind == impl.EvCrash || e.Kind == impl.EvTick:
		return fmt.Sprint([]string{"", "step ", "crash ", "tick "}[e.Kind], e.Worker)
	}
	return fmt.Sprint(e.Kind, " ", e.Worker)
}

// eventsText is the document's text of events, as long as all are valid.
func eventsText(l []event) string {
	var text strings.Builder
	n := 0
	for i, e := range l {
		n++
		if i+1 == len(l) || l[i+1] != e {
			fmt.Fprintf(&text, "%d %s\n", n, eventText(e))
			n = 0
		}
	}
	return text.String()
}

// eventsModel is the document's ReadEvents.
func eventsModel(s string) (l []event, ok bool) {
	lines := strings.Split(s, "\n")
	if lines[len(lines)-1] != "" {
		return nil, false
	}
	before := ""
	for _, line := range lines[:len(lines)-1] {
		m := sequenceForm.FindStringSubmatch(line)
		if m == nil || before == m[2]+m[3]+m[4] {
			return nil, false
		}
		before = m[2] + m[3] + m[4]
		n, err := strconv.Atoi(m[1])
		if err != nil || n < 1 || n > 1000-len(l) {
			return nil, false
		}
		e := event{Kind: map[string]int64{"step": 1, "crash": 2, "tick": 3}[m[2]+m[3]]}
		if m[4] != "" {
			e.Worker = int64(m[4][0] - '0')
		}
		l = append(l, slices.Repeat([]event{e}, n)...)
	}
	return l, true
}

// isEvents fails if events are not recovered from their text.
func isEvents(t *testing.T, l []event) {
	t.Helper()
	text := eventsText(l)
	if s := impl.EventsText(l); s != text {
		t.Fatalf("the text of %q is %.300q instead of %.300q", showEvents(l), s, text)
	}
	if back, ok := impl.ReadEvents(text); !ok || !slices.Equal(back, l) {
		t.Fatalf("%.300q is read as %q, %v", text, showEvents(back), ok)
	}
}

// isNoEvents fails if events have a text, or are read from the text that they
// would have.
func isNoEvents(t *testing.T, name string, l []event) {
	t.Helper()
	if s := impl.EventsText(l); s != "" {
		t.Errorf("%s: the text is %.300q", name, s)
	}
	rejectsEvents(t, eventsText(l))
}

func rejectsEvents(t *testing.T, s string) {
	t.Helper()
	if l, ok := impl.ReadEvents(s); ok || len(l) != 0 {
		t.Errorf("%.100q is read as %q, %v", s, showEvents(l), ok)
	}
}

// readsAsModel fails if a text is not read as the model reads it, or if what
// is read has another text. It returns whether there are events.
func readsAsModel(t *testing.T, s string) bool {
	t.Helper()
	want, wanted := eventsModel(s)
	l, ok := impl.ReadEvents(s)
	if ok != wanted || !slices.Equal(l, want) || ok && impl.EventsText(l) != s {
		t.Fatalf("%.300q is read as %q, %v instead of %q, %v", s, showEvents(l), ok, showEvents(want), wanted)
	}
	return ok
}

func TestEventExamples(t *testing.T) {
	if s := impl.EventText(event{Kind: impl.EvStep, Worker: 3}); s != "step 3" {
		t.Errorf("EventText returns %q", s)
	}
	for _, s := range []string{"step 4", "tick 0"} {
		if e, ok := impl.ReadEvent(s); ok || e != (event{}) {
			t.Errorf("%q is read as %v, %v", s, e, ok)
		}
	}
	if s := impl.EventsText(events("1 1 t 1")); s != "2 step 1\n1 tick\n1 step 1\n" {
		t.Errorf("EventsText returns %q", s)
	}
	if l, ok := impl.ReadEvents("2 step 1\n1 tick\n1 step 1\n"); !ok || !slices.Equal(l, events("1 1 t 1")) {
		t.Errorf("ReadEvents returns %q, %v", showEvents(l), ok)
	}
	if s := impl.StateText(state{Kind: impl.StTaken, Epoch: 2, Worker: 1}); s != "taken 2 1" {
		t.Errorf("StateText returns %q", s)
	}
	if s := impl.ResultText(result{Failed: true, Task: 3}); s != "failed 3" {
		t.Errorf("ResultText returns %q", s)
	}
}

// Promise 13: an event is recovered from its text.
func TestEventText(t *testing.T) {
	for worker, digit := range []string{"0", "1", "2", "3"} {
		recovers(t, event{Kind: impl.EvStep, Worker: int64(worker)}, "step "+digit, impl.EventText, impl.ReadEvent)
		recovers(t, event{Kind: impl.EvCrash, Worker: int64(worker)}, "crash "+digit, impl.EventText, impl.ReadEvent)
	}
	recovers(t, event{Kind: impl.EvTick}, "tick", impl.EventText, impl.ReadEvent)
	for kind := int64(-1); kind < 6; kind++ {
		for worker := int64(-2); worker < 7; worker++ {
			e := event{Kind: kind, Worker: worker}
			if slices.Contains(everyEvent(), e) {
				recovers(t, e, eventText(e), impl.EventText, impl.ReadEvent)
			} else {
				hasNoText(t, e, eventText(e), impl.EventText, impl.ReadEvent)
			}
		}
	}
	for _, e := range badEvents() {
		hasNoText(t, e, eventText(e), impl.EventText, impl.ReadEvent)
	}
}

// notEvents are texts of no event.
func notEvents() []string {
	texts := []string{
		"", " ", "  ", "0", "1", "step", "crash", "step ", "crash ", " step", "tick ", " tick", "tick 0", "tick 1", "tick -1", "tick 4", "ticktick", "tick tick",
		"step 0 ", " step 0", "step  0", "step 0 0", "step 0 1", "crash 0 ", " crash 0", "crash  0", "crash 0 0", "step step 0", "step tick", "tick step 0", "0 step",
		"step\t0", "step\n0", "step 0\n", "tick\n", "\ntick", "tick\x00", "tick\r", "step0", "crash0", "step-0", "step 0.", "step 0,1", "step 4", "crash 4", "step 10",
		"Step 0", "STEP 0", "Tick", "TICK", "stepp 0", "ste 0", "tic", "ticks", "crashes 0", "fly 1", "free 1", "1 step 1", "1 tick", "step W", "crash W", "\xff", "step \xff",
		strings.Repeat("tick", 100000), strings.Repeat("step 0 ", 100000), strings.Repeat(" ", 100000), "step " + strings.Repeat(" ", 100000) + "1",
	}
	for _, n := range badNumbers() {
		texts = append(texts, "step "+n, "crash "+n, "tick "+n, n+" 1", n)
	}
	for digit := range 10 {
		for _, word := range []string{"step", "crash"} {
			texts = append(texts, fmt.Sprint(word, " 0", digit), fmt.Sprint(word, " +", digit), fmt.Sprint(word, " -", digit), fmt.Sprint(word, "  ", digit), fmt.Sprint(word, " ", digit, " "))
		}
	}
	return texts
}

func TestReadEventRejects(t *testing.T) {
	for _, s := range notEvents() {
		if e, ok := impl.ReadEvent(s); ok || e != (event{}) {
			t.Errorf("%.100q is read as %v, %v", s, e, ok)
		}
	}
}

// Promise 13 for texts that are near those of events.
func TestReadEventNear(t *testing.T) {
	var texts []string
	for _, e := range everyEvent() {
		texts = append(texts, eventText(e))
	}
	texts = append(texts, "step 4", "tick 0", "step 10", "crash 00")
	readsOnly(t, texts, impl.ReadEvent, impl.EventText, func(e event) bool { return e == event{} })
}

// Every text of few words is read just if it is that of an event.
func TestReadEventOfWords(t *testing.T) {
	valid := map[string]event{}
	for _, e := range everyEvent() {
		valid[eventText(e)] = e
	}
	words := []string{"", " ", "step", "crash", "tick", "0", "3", "4", "-", "+", "\n", "\t", "00"}
	read := 0
	for _, a := range words {
		for _, b := range words {
			for _, c := range words {
				for _, d := range words {
					s := a + b + c + d
					want, wanted := valid[s]
					if e, ok := impl.ReadEvent(s); ok != wanted || e != want {
						t.Fatalf("%q is read as %v, %v", s, e, ok)
					} else if ok {
						read++
					}
				}
			}
		}
	}
	if read < 10 {
		t.Errorf("only %d texts are read", read)
	}
}

// Promise 13: events are recovered from their text.
func TestEventsText(t *testing.T) {
	isEvents(t, nil)
	isEvents(t, []event{})
	if s := impl.EventsText(nil); s != "" {
		t.Errorf("the text of no events is %q", s)
	}
	for _, a := range everyEvent() {
		isEvents(t, []event{a})
		for _, b := range everyEvent() {
			for _, c := range everyEvent() {
				isEvents(t, []event{a, b, c})
				isEvents(t, []event{a, a, b, c, c, c})
			}
		}
		for n := 1; n <= 1000; n += 37 {
			isEvents(t, slices.Repeat([]event{a}, n))
		}
	}
	random := rand.New(rand.NewSource(31))
	for n := range 1001 {
		isEvents(t, randomEvents(random, 1+random.Int63n(4), n))
		var l []event
		for len(l) < n {
			e := everyEvent()[random.Intn(9)]
			l = append(l, slices.Repeat([]event{e}, min(1+random.Intn(1<<random.Intn(8)), n-len(l)))...)
		}
		isEvents(t, l)
	}
}

// 1000 events are as many as there may be, in one sequence or in many.
func TestEventsLimit(t *testing.T) {
	for _, e := range everyEvent() {
		isEvents(t, slices.Repeat([]event{e}, 1000))
		isNoEvents(t, "1001 of "+eventText(e), slices.Repeat([]event{e}, 1001))
		isNoEvents(t, "100000 of "+eventText(e), slices.Repeat([]event{e}, 100000))
	}
	for _, part := range []string{"0 1", "t 0*3 x0 1*5", "0*99 t", "3*499 t*501", "t*999 0", "t 0*999"} {
		l := slices.Repeat(events(part), 1000)
		isEvents(t, l[:999])
		isEvents(t, l[:1000])
		isNoEvents(t, "1001 events of "+part, l[:1001])
		isNoEvents(t, "2000 events of "+part, l[:2000])
	}
	if s := impl.EventsText(slices.Repeat(events("t"), 1000)); s != "1000 tick\n" {
		t.Errorf("the text of 1000 ticks is %q", s)
	}
	rejectsEvents(t, "1000 tick\n1 step 0\n")
	rejectsEvents(t, "1 step 0\n1000 tick\n")
	rejectsEvents(t, strings.Repeat("1 step 0\n1 tick\n", 100000))
}

// One event that is not valid makes the whole list have no text.
func TestEventsWithBadOnes(t *testing.T) {
	for _, bad := range badEvents() {
		for _, l := range [][]event{{bad}, {bad, bad}, slices.Insert(events("0 1 t"), 0, bad), slices.Insert(events("0 1 t"), 1, bad), append(events("0 1 t"), bad), append(events("t*999"), bad), append(events("t*1000"), bad)} {
			isNoEvents(t, fmt.Sprint(l), l)
		}
	}
}

func TestReadEventsRejects(t *testing.T) {
	for _, s := range []string{
		"\n", "\n\n", " ", " \n", "1 tick", "1 tick\n\n", "\n1 tick\n", "1 tick\n\n1 step 0\n", "1 tick\n1 step 0", "1 tick\n1", "1 tick\n1 step 0\n ", "1 tick\n\x00",
		"0 tick\n", "0 step 1\n", "1 tick\n0 step 1\n", "00 tick\n", "01 tick\n", "0001 tick\n", "1 tick\n02 step 1\n", "-1 tick\n", "+1 tick\n", "-0 tick\n", "1.0 tick\n", "1e1 tick\n", "a tick\n",
		"1001 tick\n", "1001 step 0\n", "10000 tick\n", "9223372036854775807 tick\n", "9223372036854775808 tick\n", "18446744073709551617 tick\n", "4294967297 tick\n", "-9223372036854775807 tick\n",
		"1 tick\n9223372036854775807 step 1\n", "999 tick\n9223372036854775807 step 1\n", "1000 tick\n1 step 1\n", "500 tick\n501 step 1\n", "999 tick\n2 step 1\n", "1 step 0\n1000 step 1\n",
		"1 tick\n1 tick\n", "2 tick\n3 tick\n", "1 step 1\n1 step 1\n", "1 tick\n1 step 1\n1 step 1\n", "1 step 0\n1 tick\n1 tick\n1 step 0\n", "1 crash 2\n1 crash 2\n", "500 tick\n500 tick\n",
		"tick\n", "step 1\n", "1\n", "1 \n", " tick\n", "1 tick \n", " 1 tick\n", "1  tick\n", "1 tick 0\n", "1 tick 1\n", "1 step\n", "1 step \n", "1 step 4\n", "1 step -1\n", "1 step 01\n", "1 step  1\n", "1 step 1 \n", "1 step 1 1\n", "1 fly 1\n",
		"1 tick\r\n", "1\ttick\n", "1 tick;1 step 0\n", "1 1 tick\n", "1 tick\n1 step 4\n", "1 step 4\n1 tick\n", "one tick\n", "\xff", "1 \xff\n",
		strings.Repeat("\n", 100000), strings.Repeat("1", 100000) + " tick\n", strings.Repeat("1 tick ", 100000), strings.Repeat("0", 100000) + "1 tick\n", "1 " + strings.Repeat("tick", 100000) + "\n",
	} {
		rejectsEvents(t, s)
		readsAsModel(t, s)
	}
	for _, s := range notEvents() {
		rejectsEvents(t, "1 "+s+"\n")
		rejectsEvents(t, "1 tick\n1 step 1"+s)
		rejectsEvents(t, s+" tick")
		rejectsEvents(t, "1 tick\n1 "+s+" \n")
	}
	for _, n := range badNumbers() {
		rejectsEvents(t, n+" tick\n")
		rejectsEvents(t, "1 step 0\n"+n+" tick\n")
		rejectsEvents(t, "1 tick\n1 step "+n+"\n")
	}
}

// Promise 13 for texts that are near those of events.
func TestReadEventsNear(t *testing.T) {
	accepted := 0
	for _, text := range []string{"", "1 tick\n", "2 step 1\n1 tick\n1 step 1\n", "1 crash 0\n12 crash 1\n100 step 3\n", "1000 step 0\n", "999 tick\n1 crash 3\n", "500 tick\n500 step 2\n", "990 tick\n9 step 0\n1 tick\n"} {
		if !readsAsModel(t, text) {
			t.Errorf("%q is rejected", text)
		}
		near(text, func(s string) {
			if readsAsModel(t, s) {
				accepted++
			}
		})
	}
	if accepted < 100 {
		t.Errorf("only %d texts are accepted", accepted)
	}
}

// Promise 13 for texts of random parts.
func TestReadEventsOfParts(t *testing.T) {
	random := rand.New(rand.NewSource(32))
	parts := []string{"1 tick\n", "3 step 0\n", "2 crash 3\n", "400 step 1\n", "250 tick\n", "1", "0", "12", " ", "tick", "step 2", "\n", "1 step 4\n", "01 tick\n", "1 tick", "5 crash 1\n", "7 step 2\n"}
	accepted := 0
	for range 100000 {
		s := ""
		for range random.Intn(7) {
			at := random.Intn(len(parts))
			if random.Intn(2) == 0 {
				at = random.Intn(5)
			}
			s += parts[at]
		}
		if readsAsModel(t, s) {
			accepted++
		}
	}
	if accepted < 10000 {
		t.Errorf("only %d texts are accepted", accepted)
	}
}

func TestStateText(t *testing.T) {
	for _, n := range []int64{0, 1, 2, 3, 9, 10, -1, -2, 1000000, 1000001, math.MaxInt64, math.MinInt64} {
		for _, worker := range []int64{0, 1, 3, 4, -1, -10, math.MaxInt64, math.MinInt64} {
			for kind, want := range map[int64]string{
				1: fmt.Sprintf("free %d", n), 2: fmt.Sprintf("taken %d %d", n, worker), 3: fmt.Sprintf("done %d %d", n, worker), 4: fmt.Sprintf("failed %d %d", n, worker),
				0: "", 5: "", -1: "", 6: "", 256 + 1: "", 1<<32 + 1: "", math.MaxInt64: "", math.MinInt64: "",
			} {
				if s := impl.StateText(state{Kind: kind, Epoch: n, Worker: worker}); s != want {
					t.Errorf("the text of kind %d, epoch %d, worker %d is %q", kind, n, worker, s)
				}
			}
		}
	}
	for text, x := range map[string]state{
		"free 0": {Kind: impl.StFree}, "free 7": {Kind: impl.StFree, Epoch: 7, Worker: 3}, "taken 2 1": {Kind: impl.StTaken, Epoch: 2, Worker: 1},
		"done 1 0": {Kind: impl.StDone, Epoch: 1}, "failed 3 2": {Kind: impl.StFailed, Epoch: 3, Worker: 2}, "taken -1 -2": {Kind: impl.StTaken, Epoch: -1, Worker: -2}, "free -5": {Kind: impl.StFree, Epoch: -5, Worker: -6},
	} {
		if s := impl.StateText(x); s != text {
			t.Errorf("the text of %v is %q", x, s)
		}
	}
	if s := impl.StateText(state{}); s != "" {
		t.Errorf("the text of the zero value is %q", s)
	}
}

// resultText is the document's text of a result.
func resultText(r result) string {
	if !r.Done && !r.Failed {
		return "open"
	}
	if !r.Done {
		return fmt.Sprintf("failed %d", r.Task)
	}
	words := []string{"done"}
	for _, run := range r.Out {
		words = append(words, "|")
		for _, x := range run {
			words = append(words, fmt.Sprintf("%s=%d", x.Key, x.N))
		}
	}
	return strings.Join(words, " ")
}

func TestResultText(t *testing.T) {
	one := []rec{{Key: "a", N: 1}}
	for _, r := range []struct {
		r    result
		want string
	}{
		{result{}, "open"},
		{result{Task: 3, Out: [][]rec{one}}, "open"},
		{result{Failed: true}, "failed 0"},
		{result{Failed: true, Task: 6}, "failed 6"},
		{result{Failed: true, Task: -1}, "failed -1"},
		{result{Failed: true, Task: math.MaxInt64}, "failed 9223372036854775807"},
		{result{Failed: true, Task: math.MinInt64}, "failed -9223372036854775808"},
		{result{Failed: true, Task: 2, Out: [][]rec{one}}, "failed 2"},
		{result{Done: true}, "done"},
		{result{Done: true, Out: [][]rec{}}, "done"},
		{result{Done: true, Failed: true, Task: 3}, "done"},
		{result{Done: true, Failed: true, Task: 3, Out: [][]rec{one}}, "done | a=1"},
		{result{Done: true, Task: 3, Out: [][]rec{nil}}, "done |"},
		{result{Done: true, Out: [][]rec{{}, nil, {}}}, "done | | |"},
		{result{Done: true, Out: [][]rec{nil, one, nil}}, "done | | a=1 |"},
		{result{Done: true, Out: [][]rec{{{Key: "a", N: 1}, {Key: "b", N: -2}}, nil}}, "done | a=1 b=-2 |"},
		{result{Done: true, Out: [][]rec{{{Key: "", N: 0}, {Key: " ", N: 1}, {Key: "a b", N: 2}, {Key: "|", N: 3}, {Key: "=", N: 4}, {Key: "a=1 |", N: 5}}}}, "done | =0  =1 a b=2 |=3 ==4 a=1 |=5"},
		{result{Done: true, Out: [][]rec{{{Key: "\n", N: 1}, {Key: "\x00\xff", N: 1}, {Key: "\t", N: 10}}}}, "done | \n=1 \x00\xff=1 \t=10"},
		{result{Done: true, Out: [][]rec{{{Key: "least", N: math.MinInt64}, {Key: "most", N: math.MaxInt64}}}}, "done | least=-9223372036854775808 most=9223372036854775807"},
		// What is no result of a job has a text as well.
		{result{Done: true, Out: [][]rec{{{Key: "b", N: 2}, {Key: "a", N: 1}, {Key: "b", N: 2}}, one, one, one, one}}, "done | b=2 a=1 b=2 | a=1 | a=1 | a=1 | a=1"},
		{result{Done: true, Out: [][]rec{{{Key: longKey(41), N: 1}}}}, "done | " + longKey(41) + "=1"},
		{result{Done: true, Out: [][]rec{manyRecs(601), manyRecs(601)}}, resultText(result{Done: true, Out: [][]rec{manyRecs(601), manyRecs(601)}})},
	} {
		if s := impl.ResultText(r.r); s != r.want {
			t.Errorf("the text of %.300q is %.300q instead of %.300q", fmt.Sprint(r.r), s, r.want)
		}
	}
	random := rand.New(rand.NewSource(33))
	for range 1000 {
		r := result{Done: random.Intn(5) > 0, Failed: random.Intn(2) == 0, Task: random.Int63n(9) - 2}
		for range random.Intn(4) {
			r.Out = append(r.Out, randomRecs(random, random.Intn(6)))
		}
		if s := impl.ResultText(r); s != resultText(r) {
			t.Errorf("the text of %v is %q instead of %q", r, s, resultText(r))
		}
	}
	for _, j := range append(lightJobs(t), heavyJobs()...) {
		if r := impl.ResultOf(j); impl.ResultText(r) != resultText(r) {
			t.Errorf("the text of %.300q is %.300q", fmt.Sprint(r), impl.ResultText(r))
		}
	}
}

// Promise 15: no argument is modified, nor what is behind it, and no two
// results share memory.
func TestEventsMemory(t *testing.T) {
	for _, l := range [][]event{events("0*3 t*2 x1 0"), events("t*1000"), events("t*1001"), append(events("0 0"), event{Kind: 9}), {{}}, {}} {
		for _, filler := range []event{{Kind: impl.EvTick}, {Kind: impl.EvStep}, {Kind: 9}} {
			keeps(t, "EventsText", l, filler, func(l []event) { impl.EventsText(l) })
		}
	}
	runs := [][]rec{{{Key: "b", N: 1}, {Key: "a", N: 2}}, {{Key: "c", N: 3}}}
	for _, r := range []result{{Done: true}, {Failed: true}, {}} {
		for at := range runs {
			keeps(t, "ResultText", runs[at], rec{Key: "spare"}, func(l []rec) {
				r.Out = slices.Clone(runs)
				r.Out[at] = l
				impl.ResultText(r)
				if !slices.Equal(r.Out[1-at], runs[1-at]) {
					t.Errorf("ResultText modified %v", r.Out)
				}
			})
		}
	}
	for _, s := range []string{"1 tick\n", "2 step 1\n1 tick\n1 step 1\n", "1000 crash 3\n"} {
		fresh(t, "ReadEvents", event{Kind: 9}, func() []event {
			l, _ := impl.ReadEvents(s)
			return l
		})
	}
}

// Promise 15: equal arguments yield equal results, also at the same time.
func TestEventsAreRepeated(t *testing.T) {
	random := rand.New(rand.NewSource(34))
	var running sync.WaitGroup
	for range 8 {
		l := randomEvents(random, 4, 1000)
		text := eventsText(l)
		r := result{Done: true, Out: [][]rec{randomRecs(random, 300), nil, randomRecs(random, 5)}}
		for range 2 {
			running.Go(func() {
				for i := range 20 {
					e := l[i]
					back, ok := impl.ReadEvents(text)
					one, read := impl.ReadEvent(eventText(e))
					if !ok || !slices.Equal(back, l) || impl.EventsText(l) != text || !read || one != e || impl.EventText(e) != eventText(e) || impl.ResultText(r) != resultText(r) || impl.StateText(state{Kind: 2, Epoch: int64(i)}) != fmt.Sprint("taken ", i, " 0") {
						t.Errorf("another result for %q", showEvents(l))
					}
				}
			})
		}
	}
	running.Wait()
}
