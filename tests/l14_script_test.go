package tests

import (
	"fmt"
	"math"
	"math/rand"
	"regexp"
	"slices"
	"strconv"
	"strings"
	"sync"
	"testing"

	"loop.example/g00703/impl"
)

// The forms of the document's table, for the words of a line with one space
// between them. A number may still be beyond int64.
var (
	numberForm  = regexp.MustCompile(`^(0|-?[1-9][0-9]*)$`)
	workersForm = regexp.MustCompile(`^workers (0|-?[1-9][0-9]*)$`)
	eventForm   = regexp.MustCompile(`^(step|crash) (0|-?[1-9][0-9]*)$|^(?:(step) (0|-?[1-9][0-9]*) )(0|-?[1-9][0-9]*)$|^(tick)(?: (0|-?[1-9][0-9]*))?$`)
	countForm   = regexp.MustCompile(`^count ([^ ]+)$`)
	modeForm    = regexp.MustCompile(`^mode (0|-?[1-9][0-9]*)$`)
)

// scriptModel is the document's interpreter behind the period. It keeps the
// events and plays all of them again for each line that asks for the world.
type scriptModel struct {
	j       job
	workers int64
	events  []event
}

func (m *scriptModel) world() world {
	w, ok := impl.Play(m.j, m.workers, m.events)
	if !ok {
		panic("events that are not valid: " + showEvents(m.events))
	}
	return w
}

// numbersOf returns false if a text is no number of int64.
func numbersOf(texts ...string) (numbers []int64, ok bool) {
	for _, text := range texts {
		n, err := strconv.ParseInt(text, 10, 64)
		if err != nil {
			return nil, false
		}
		numbers = append(numbers, n)
	}
	return numbers, true
}

func (m *scriptModel) begin(workers int64) string {
	if workers < 1 || workers > 4 {
		return "no"
	}
	m.workers, m.events = workers, nil
	return "ok"
}

func (m *scriptModel) perform(words []string) string {
	e := event{Kind: map[string]int64{"step": 1, "crash": 2, "tick": 3}[words[0]]}
	numbers, ok := numbersOf(words[1:]...)
	if !ok {
		return "what"
	}
	if m.workers == 0 {
		return "none"
	}
	if words[0] != "tick" {
		e.Worker, numbers = numbers[0], numbers[1:]
	}
	times := append(numbers, 1)[0]
	if times < 1 || times > 200 || e.Worker < 0 || e.Worker >= m.workers || len(m.events)+int(times) > 1000 {
		return "no"
	}
	m.events = append(m.events, slices.Repeat([]event{e}, int(times))...)
	return "ok"
}

// look answers the lines that only read the world.
func (m *scriptModel) look(line string) string {
	w := m.world()
	if f := countForm.FindStringSubmatch(line); f != nil {
		return fmt.Sprint(len(slices.DeleteFunc(w.Store.Objs, func(o obj) bool { return !strings.HasPrefix(o.Key, f[1]) })))
	}
	if f := modeForm.FindStringSubmatch(line); f != nil {
		n, _ := numbersOf(f[1])
		if n[0] < 0 || n[0] >= m.workers {
			return "no"
		}
		return fmt.Sprint(w.Workers[n[0]].Mode, " ", w.Workers[n[0]].Task)
	}
	if line == "board" {
		return showBoard(boardModel(m.j, w.Store, w.Now))
	}
	return resultText(outcomeModel(m.j, w.Store))
}

// answer answers a line whose words have one space between them.
func (m *scriptModel) answer(line string) string {
	if f := workersForm.FindStringSubmatch(line); f != nil {
		if n, ok := numbersOf(f[1]); ok {
			return m.begin(n[0])
		}
		return "what"
	}
	if eventForm.MatchString(line) {
		return m.perform(strings.Split(line, " "))
	}
	if line == "result" {
		return resultText(resultModel(m.j))
	}
	f := modeForm.FindStringSubmatch(line)
	if f == nil && !countForm.MatchString(line) && line != "board" && line != "outcome" {
		return "what"
	}
	if f != nil {
		if _, ok := numbersOf(f[1]); !ok {
			return "what"
		}
	}
	if m.workers == 0 {
		return "none"
	}
	return m.look(line)
}

// spaced returns the words of a line with one space between them.
func spaced(line string) string {
	return strings.Join(strings.FieldsFunc(line, func(r rune) bool { return r == ' ' }), " ")
}

// linesOfScript returns the text of the job and the lines behind the period,
// or false if the text is too long for a script, or is none.
func linesOfScript(text string) (jobText string, lines []string, ok bool) {
	before, after, ok := strings.Cut("\n"+text, "\n.\n")
	if !ok || !strings.HasSuffix(text, "\n") || len(text) > 6000 || strings.Count(text, "\n") > 80 {
		return "", nil, false
	}
	lines = strings.Split(after, "\n")
	return strings.TrimPrefix(before+"\n", "\n"), lines[:len(lines)-1], true
}

// outputsModel is the document's RunScript, as a list of lines.
func outputsModel(text string) []string {
	jobText, lines, ok := linesOfScript(text)
	if !ok {
		return []string{"too long"}
	}
	j, read := impl.ReadJob(jobText)
	m := scriptModel{j: j}
	outputs := []string{map[bool]string{false: "no", true: "ok"}[read]}
	for _, line := range lines {
		line = spaced(line)
		switch {
		case line == "":
		case !read:
			outputs = append(outputs, "none")
		default:
			outputs = append(outputs, m.answer(line))
		}
	}
	return outputs
}

// outputsOf returns the lines of the output of a script.
func outputsOf(t *testing.T, text string) []string {
	t.Helper()
	output := impl.RunScript(text)
	lines := strings.Split(output, "\n")
	last := len(lines) - 1
	if last == 0 || lines[last] != "" {
		t.Fatalf("the last line of the output %.300q of %q is not ended", output, text)
	}
	return lines[:last]
}

// prints fails if a script has another output, or one that is not the model's.
func prints(t *testing.T, text string, want ...string) {
	t.Helper()
	if output := outputsOf(t, text); !slices.Equal(output, want) {
		t.Errorf("the output of %.300q is %.1000q instead of %.1000q", text, output, want)
	}
	if model := outputsModel(text); !slices.Equal(model, want) {
		t.Errorf("the model's output of %.300q is %.1000q instead of %.1000q", text, model, want)
	}
}

func isTooLong(t *testing.T, text string) {
	t.Helper()
	if output := impl.RunScript(text); output != "too long\n" {
		t.Errorf("the output of %.100q, of %d bytes, is %.100q", text, len(text), output)
	}
	prints(t, text, "too long")
}

// dialog fails if the lines behind the period of a script with this job have
// other outputs than what is behind an arrow. A line without one has none.
func dialog(t *testing.T, jobText string, pairs ...string) {
	t.Helper()
	text, want := jobText+".\n", []string{"ok"}
	for _, pair := range pairs {
		line, output, found := strings.Cut(pair, " -> ")
		text += line + "\n"
		if found {
			want = append(want, output)
		}
	}
	prints(t, text, want...)
}

func TestScriptConstants(t *testing.T) {
	if impl.MaxScript != 80 || impl.MaxText != 6000 {
		t.Error("a limit is not the document's")
	}
}

func TestScriptExample(t *testing.T) {
	dialog(t, wordJob,
		"workers 2 -> ok", "step 0 3 -> ok", "board -> taken 1 0, free 0", "step 2 -> no", "step 0 201 -> no", "step 0 0 -> no", "mode 0 -> 4 0", "mode 1 -> 1 0", "mode 2 -> no",
		"tick 5 -> ok", "board -> free 1, free 0", "count in/ -> 1", "count -> what", "crash 0 -> ok", "mode 0 -> 1 0", "step 1 40 -> ok", "board -> done 2 1, done 1 1", "outcome -> done | a=2 b=1", "count res/ -> 1",
	)
}

// A script has at most 80 lines and 6000 bytes, each line is ended, and there
// is a line with a period alone.
func TestScriptLimits(t *testing.T) {
	head := wordJob + ".\n"
	n := strings.Count(head, "\n")
	for _, line := range []string{"\n", "   \n", "fly\n", "workers 1\n", ".\n"} {
		text := head + strings.Repeat(line, 80-n)
		if outputs := outputsOf(t, text); outputs[0] != "ok" {
			t.Errorf("80 lines: %q", outputs)
		}
		prints(t, text, outputsModel(text)...)
		isTooLong(t, text+line)
		isTooLong(t, text+"\n")
		isTooLong(t, text+strings.Repeat(line, 1000))
		isTooLong(t, text+"x")
		isTooLong(t, strings.TrimSuffix(text, "\n")+"x")
	}
	prints(t, ".\n"+strings.Repeat("\n", 79), "no")
	prints(t, strings.Repeat("\n", 79)+".\n", "no")
	isTooLong(t, ".\n"+strings.Repeat("\n", 80))
	isTooLong(t, strings.Repeat("\n", 80)+".\n")
	isTooLong(t, strings.Repeat("\n", 80))
	isTooLong(t, strings.Repeat("\n", 6000))

	prints(t, head+strings.Repeat(" ", 5999-len(head))+"\n", "ok")
	isTooLong(t, head+strings.Repeat(" ", 6000-len(head))+"\n")
	prints(t, head+"result"+strings.Repeat(" ", 5993-len(head))+"\n", "ok", "done | a=2 b=1")
	isTooLong(t, head+"result"+strings.Repeat(" ", 5994-len(head))+"\n")
	prints(t, head+"workers 1\ncount "+strings.Repeat("i", 5983-len(head))+"\n", "ok", "ok", "0")
	isTooLong(t, head+"workers 1\ncount "+strings.Repeat("i", 5984-len(head))+"\n")
	prints(t, strings.Repeat("a", 5997)+"\n.\n", "no")
	isTooLong(t, strings.Repeat("a", 5998)+"\n.\n")
	isTooLong(t, head+strings.Repeat("a", 1000000)+"\n")
	isTooLong(t, strings.Repeat(head, 100000))
}

// A text without a line that is ended and consists of a period alone is no
// script.
func TestScriptPeriod(t *testing.T) {
	for _, text := range []string{
		"", "\n", ".", "a", "a\n", " .\n", ". \n", " . \n", "..\n", ".\t\n", "\t.\n", ".\r\n", "a.\n", ".a\n", "a\n.", "\n.", ".\n.", ".\na", ".\n\n ", "\x00.\n", "\n\n", "\xff\n",
		wordJob, wordJob + ".", wordJob + " .\n", wordJob + ". \nboard\n", wordJob + "..\n", wordJob + "board\n", wordJob + ".\nboard", wordJob + ".\nboard\n.", wordJob + ".\n ", wordJob + ".\r\n", "x" + strings.Repeat("a", 5000),
	} {
		isTooLong(t, text)
	}
	prints(t, ".\n", "no")
	prints(t, ".\n.\n", "no", "none")
	prints(t, ".\n"+wordJob, "no", "none", "none", "none", "none")
	prints(t, "\n.\n", "no")
	prints(t, wordJob+".\n", "ok")
	prints(t, " .\n.\n", "no")
	prints(t, wordJob+" .\n.\nresult\n", "no", "none")
	prints(t, wordJob+". \n.\nresult\n", "no", "none")
	prints(t, wordJob+"\n.\nresult\n", "no", "none")
	prints(t, "\n"+wordJob+".\nresult\n", "no", "none")
	prints(t, ".\n"+wordJob+".\nresult\n", "no", "none", "none", "none", "none", "none", "none")
	dialog(t, wordJob, ". -> what", " .  -> what", "result -> done | a=2 b=1", ". -> what", "workers 1 -> ok", ". -> what", ".. -> what", ". 1 -> what", "board -> free 0, free 0")

	// A period that is meant as a line of a split ends the text of the job.
	prints(t, "job sum 1 line\nf0 n1 emit\nsplit 1\n.\n.\nboard\n", "no", "none", "none")
	dialog(t, "job sum 1 line\nf0 n1 emit\nsplit 2\n .\n..\n", "result -> done | .=1 ..=1")
}

// Without a job, each line with words yields none.
func TestScriptWithoutJob(t *testing.T) {
	for _, text := range []string{
		"", "x\n", "\n", "job\n", "job sum 1 each\n", "job sum 4 each\nf0 n1 emit\nsplit 0\n", "job sum 1 each\nf0 n1\nsplit 0\n", "job sum 1 each\nf0 n1 emit\n", "job sum 1 each\nf0 n1 emit\nsplit 2\na\n",
		wordJob + wordJob, wordJob + "x\n", wordJob + " \n", " " + wordJob, "job sum 1 each\nf0 n1 emit\nsplit 1\n" + strings.Repeat("a", 201) + "\n", strings.ReplaceAll(wordJob, "\n", "\r\n"),
	} {
		prints(t, text+".\n", "no")
		want := []string{"no"}
		script := text + ".\n"
		for _, line := range []string{"workers 1", "board", "step 0", "tick", "crash 0", "outcome", "result", "count in/", "mode 0", "fly", "workers", "workers 5", "step 0 201", ".", "\t", "\r", "  tick  2 ", "-1"} {
			script += line + "\n\n   \n"
			want = append(want, "none")
		}
		prints(t, script, want...)
	}
	prints(t, "x\n.\nboard\n\nfly\n", "no", "none", "none")
}

// What each line yields without a world, and with a world of two workers, of
// which worker 0 has claimed the first task.
func TestScriptLines(t *testing.T) {
	for _, r := range [][3]string{
		{"workers 1", "ok", "ok"}, {"workers 2", "ok", "ok"}, {"workers 3", "ok", "ok"}, {"workers 4", "ok", "ok"},
		{"workers 0", "no", "no"}, {"workers 5", "no", "no"}, {"workers -1", "no", "no"}, {"workers 9223372036854775807", "no", "no"}, {"workers -9223372036854775808", "no", "no"},
		{"workers", "what", "what"}, {"workers 2 2", "what", "what"}, {"workers x", "what", "what"}, {"workers 2 x", "what", "what"}, {"workers 9223372036854775808", "what", "what"}, {"workers -9223372036854775809", "what", "what"}, {"workers 02", "what", "what"}, {"workers 00", "what", "what"}, {"workers +2", "what", "what"}, {"workers -0", "what", "what"}, {"workers 2.0", "what", "what"},

		{"step 0", "none", "ok"}, {"step 1", "none", "ok"}, {"step 2", "none", "no"}, {"step 4", "none", "no"}, {"step -1", "none", "no"}, {"step 9223372036854775807", "none", "no"}, {"step -9223372036854775808", "none", "no"},
		{"step 0 1", "none", "ok"}, {"step 1 200", "none", "ok"}, {"step 1 201", "none", "no"}, {"step 0 0", "none", "no"}, {"step 0 -1", "none", "no"}, {"step 0 9223372036854775807", "none", "no"}, {"step 0 -9223372036854775808", "none", "no"}, {"step 2 1", "none", "no"}, {"step 2 0", "none", "no"}, {"step -1 5", "none", "no"},
		{"step", "what", "what"}, {"step x", "what", "what"}, {"step 0 x", "what", "what"}, {"step x 1", "what", "what"}, {"step 0 1 1", "what", "what"}, {"step 9 9 9", "what", "what"}, {"step 00", "what", "what"}, {"step 0 01", "what", "what"}, {"step 01 1", "what", "what"}, {"step 9223372036854775808", "what", "what"}, {"step 0 9223372036854775808", "what", "what"}, {"step 0 -9223372036854775809", "what", "what"}, {"step +0", "what", "what"}, {"step 0 +1", "what", "what"}, {"step -0", "what", "what"}, {"step 0 -0", "what", "what"}, {"step tick", "what", "what"},

		{"tick", "none", "ok"}, {"tick 1", "none", "ok"}, {"tick 200", "none", "ok"}, {"tick 201", "none", "no"}, {"tick 0", "none", "no"}, {"tick -1", "none", "no"}, {"tick 9223372036854775807", "none", "no"}, {"tick -9223372036854775808", "none", "no"},
		{"tick x", "what", "what"}, {"tick 0 1", "what", "what"}, {"tick 1 1", "what", "what"}, {"tick 01", "what", "what"}, {"tick 00", "what", "what"}, {"tick 9223372036854775808", "what", "what"}, {"tick +1", "what", "what"}, {"tick -0", "what", "what"}, {"tick tick", "what", "what"},

		{"crash 0", "none", "ok"}, {"crash 1", "none", "ok"}, {"crash 2", "none", "no"}, {"crash 4", "none", "no"}, {"crash -1", "none", "no"}, {"crash 9223372036854775807", "none", "no"}, {"crash -9223372036854775808", "none", "no"},
		{"crash", "what", "what"}, {"crash x", "what", "what"}, {"crash 0 1", "what", "what"}, {"crash 0 x", "what", "what"}, {"crash 00", "what", "what"}, {"crash 9223372036854775808", "what", "what"}, {"crash +0", "what", "what"}, {"crash -0", "what", "what"},

		{"board", "none", "taken 1 0, free 0"}, {"board 0", "what", "what"}, {"board x", "what", "what"}, {"board board", "what", "what"},
		{"outcome", "none", "open"}, {"outcome 0", "what", "what"}, {"outcome x", "what", "what"},
		{"result", "done | a=2 b=1", "done | a=2 b=1"}, {"result 0", "what", "what"}, {"result x", "what", "what"},

		{"count in/", "none", "1"}, {"count claim/", "none", "1"}, {"count claim/0", "none", "1"}, {"count claim/00", "none", "0"}, {"count c", "none", "1"}, {"count i", "none", "1"}, {"count 0", "none", "0"}, {"count x", "none", "0"}, {"count -1", "none", "0"}, {"count 01", "none", "0"}, {"count IN/", "none", "0"}, {"count n", "none", "0"}, {"count *", "none", "0"}, {"count in/\t", "none", "0"}, {"count 9223372036854775808", "none", "0"}, {"count count", "none", "0"}, {"count .", "none", "0"}, {"count \xff", "none", "0"},
		{"count", "what", "what"}, {"count a b", "what", "what"}, {"count in/ in/", "what", "what"},

		{"mode 0", "none", "4 0"}, {"mode 1", "none", "1 0"}, {"mode 2", "none", "no"}, {"mode 4", "none", "no"}, {"mode -1", "none", "no"}, {"mode 9223372036854775807", "none", "no"}, {"mode -9223372036854775808", "none", "no"},
		{"mode", "what", "what"}, {"mode x", "what", "what"}, {"mode 0 0", "what", "what"}, {"mode 00", "what", "what"}, {"mode 9223372036854775808", "what", "what"}, {"mode +0", "what", "what"}, {"mode -0", "what", "what"},

		{"fly", "what", "what"}, {"fly 1", "what", "what"}, {"0", "what", "what"}, {"-1", "what", "what"}, {"Board", "what", "what"}, {"BOARD", "what", "what"}, {"boards", "what", "what"}, {"boar", "what", "what"}, {"worker 1", "what", "what"}, {"steps 0", "what", "what"}, {"ticks", "what", "what"}, {"begin 1", "what", "what"}, {"ok", "what", "what"}, {"no", "what", "what"}, {"none", "what", "what"}, {"what", "what", "what"}, {"job", "what", "what"}, {".", "what", "what"}, {"\t", "what", "what"}, {"\r", "what", "what"}, {"\x00", "what", "what"}, {"\xff", "what", "what"}, {"\v", "what", "what"}, {"\u00a0", "what", "what"},
		{"board\r", "what", "what"}, {"board\t", "what", "what"}, {"\tboard", "what", "what"}, {"tick\r", "what", "what"}, {"tick \r", "what", "what"}, {"step\t0", "what", "what"}, {"step 0\t", "what", "what"}, {"step 0\r", "what", "what"}, {"step 0 1\r", "what", "what"}, {"count\tin/", "what", "what"}, {"mode 0\r", "what", "what"}, {"workers 1\r", "what", "what"}, {"workers\u00a01", "what", "what"}, {"step0", "what", "what"}, {"step,0", "what", "what"},
	} {
		line, without, with := r[0], r[1], r[2]
		for _, form := range []string{line, " " + line, line + " ", "   " + line + "    ", strings.ReplaceAll(line, " ", "  "), "  " + strings.ReplaceAll(line, " ", "     ") + " "} {
			dialog(t, wordJob, form+" -> "+without)
			dialog(t, wordJob, "workers 2 -> ok", "step 0 3 -> ok", form+" -> "+with)
			prints(t, "x\n.\n"+form+"\n", "no", "none")
		}
		switch with {
		case "no", "what":
			// Nothing is done, and the world is still the one before.
			dialog(t, wordJob, "workers 2 -> ok", "step 0 3 -> ok", line+" -> "+with, "board -> taken 1 0, free 0", "mode 0 -> 4 0", "mode 1 -> 1 0", "mode 2 -> no", "tick 4 -> ok", "board -> taken 1 0, free 0", "tick -> ok", "board -> free 1, free 0")
			fallthrough
		default:
			if without != "ok" {
				dialog(t, wordJob, line+" -> "+without, "board -> none", "mode 0 -> none")
			}
		}
	}
}

// Every text that is not a decimal number is refused where a number is
// required, with a world and without one. Every decimal number is accepted.
func TestScriptNumbers(t *testing.T) {
	forms := []string{"workers %s", "step %s", "step %s 1", "step 0 %s", "tick %s", "crash %s", "mode %s"}
	for _, text := range append(badNumbers(), "0x0", "\u0660", "1,0", "--1", "-01", "-00", "1-", "0\x00", "00000000000000000000", "10000000000000000000", "99999999999999999999", "-9999999999999999999") {
		if text == "" || strings.Contains(text, "\n") || len(text) > 5000 {
			continue
		}
		_, ok := numbersOf(text)
		decimal := ok && numberForm.MatchString(text)
		for _, form := range forms {
			line := fmt.Sprintf(form, text)
			with, without := "what", "what"
			if decimal {
				with, without = "no", "none"
			}
			if decimal && form == "workers %s" {
				without = "no"
			}
			dialog(t, wordJob, "workers 1 -> ok", line+" -> "+with, "mode 0 -> 1 0")
			dialog(t, wordJob, line+" -> "+without)
		}
	}
	for n := -3; n < 210; n++ {
		for _, form := range forms {
			text := wordJob + ".\nworkers 3\n" + fmt.Sprintf(form, fmt.Sprint(n)) + "\nmode 0\nboard\ncount claim\n"
			prints(t, text, outputsModel(text)...)
		}
	}
}

// Lines without words have no output, wherever they are.
func TestScriptSpaces(t *testing.T) {
	dialog(t, wordJob, "", " ", "    ", strings.Repeat(" ", 300))
	dialog(t, wordJob, "", "board -> none", "", "   ", "workers 1 -> ok", " ", "  tick    3  -> ok", "", " step     0   3 -> ok", "    mode  0 -> 4 0", "  board   -> taken 1 0, free 0", "     ")
	dialog(t, wordJob, "\t -> what", " \t  -> what", "\r -> what", " \r -> what", "\t\t -> what", "\v -> what", "\f -> what", "\u2003 -> what")
	dialog(t, wordJob, "workers 1 -> ok", strings.Repeat("x ", 25)+" -> what", strings.Repeat("step ", 25)+" -> what", "step 0 "+strings.Repeat("1 ", 30)+" -> what", "board"+strings.Repeat(" 0", 19)+" -> what", "board"+strings.Repeat(" 0", 20)+" -> what", "mode 0 -> 1 0")
	prints(t, "x\n.\n\n \n   \n", "no")
}

// The number of workers, also of a world that follows another one.
func TestScriptWorkers(t *testing.T) {
	for n := range int64(4) {
		lines := []string{fmt.Sprint("workers ", n+1, " -> ok")}
		for worker := int64(-1); worker < 6; worker++ {
			is := worker >= 0 && worker <= n
			done := map[bool]string{false: "no", true: "ok"}[is]
			mode := map[bool]string{false: "no", true: "2 0"}[is]
			lines = append(lines, fmt.Sprint("step ", worker, " -> ", done), fmt.Sprint("mode ", worker, " -> ", mode), fmt.Sprint("crash ", worker, " -> ", done))
		}
		dialog(t, wordJob, lines...)
	}
	dialog(t, wordJob, "workers 0 -> no", "board -> none", "workers 5 -> no", "board -> none", "workers x -> what", "board -> none", "workers 1 -> ok", "board -> free 0, free 0")
	// A new world begins anew; one that is refused leaves the world as it is.
	dialog(t, wordJob,
		"workers 1 -> ok", "step 0 3 -> ok", "tick 2 -> ok", "board -> taken 1 0, free 0",
		"workers 0 -> no", "board -> taken 1 0, free 0", "mode 0 -> 4 0", "workers 5 -> no", "board -> taken 1 0, free 0", "workers 1 1 -> what", "workers -> what", "board -> taken 1 0, free 0",
		"tick 3 -> ok", "board -> free 1, free 0",
		"workers 3 -> ok", "board -> free 0, free 0", "mode 0 -> 1 0", "mode 2 -> 1 0", "count claim/ -> 0", "count in/ -> 1", "step 2 3 -> ok", "board -> taken 1 2, free 0", "tick 4 -> ok", "board -> taken 1 2, free 0", "tick -> ok", "board -> free 1, free 0",
		"workers 1 -> ok", "mode 2 -> no", "step 2 -> no", "board -> free 0, free 0", "step 0 40 -> ok", "outcome -> done | a=2 b=1", "workers 2 -> ok", "outcome -> open", "count job -> 0",
	)
}

// A line stands for at most 200 events.
func TestScriptTimes(t *testing.T) {
	for _, line := range []string{"step 0", "step 1", "tick"} {
		dialog(t, wordJob, "workers 2 -> ok", line+" 0 -> no", line+" 1 -> ok", line+" 2 -> ok", line+" 199 -> ok", line+" 200 -> ok", line+" 201 -> no", line+" 202 -> no", line+" 1000 -> no", line+" -1 -> no", line+" -200 -> no", line+" 9223372036854775807 -> no")
	}
	// A line does as many events as it says.
	dialog(t, wordJob, "workers 1 -> ok", "step 0 -> ok", "mode 0 -> 2 0", "step 0 1 -> ok", "mode 0 -> 3 0", "step 0 2 -> ok", "mode 0 -> 6 0", "step 0 3 -> ok", "mode 0 -> 1 1", "step 0 0 -> no", "step 0 201 -> no", "mode 0 -> 1 1")
	for k := 1; k < 8; k++ {
		want := "taken 1 0, free 0"
		if k >= 5 {
			want = "free 1, free 0"
		}
		dialog(t, wordJob, "workers 1 -> ok", "step 0 3 -> ok", fmt.Sprint("tick ", k, " -> ok"), "board -> "+want)
		dialog(t, wordJob, append(append([]string{"workers 1 -> ok", "step 0 3 -> ok"}, slices.Repeat([]string{"tick -> ok"}, k)...), "board -> "+want)...)
	}
	dialog(t, wordJob, "workers 1 -> ok", "tick 195 -> ok", "step 0 3 -> ok", "tick 4 -> ok", "board -> taken 1 0, free 0", "tick 1 -> ok", "board -> free 1, free 0", "tick 200 -> ok", "step 0 -> ok", "crash 0 -> ok", "step 0 3 -> ok", "tick 4 -> ok", "board -> taken 2 0, free 0", "tick -> ok", "board -> free 2, free 0")
}

// There are at most 1000 events since the last world began.
func TestScriptEvents(t *testing.T) {
	most := []string{"workers 2 -> ok", "step 0 3 -> ok", "tick 197 -> ok", "step 1 200 -> ok", "tick 200 -> ok", "step 0 200 -> ok"}
	full := append(slices.Clone(most), "tick 200 -> ok")
	refused := []string{"step 0 -> no", "step 1 -> no", "tick -> no", "crash 0 -> no", "crash 1 -> no", "step 0 1 -> no", "tick 1 -> no", "tick 200 -> no", "step 2 -> no", "board -> done 2 1, done 1 1", "mode 0 -> 12 2", "mode 1 -> 12 2", "outcome -> done | a=2 b=1"}
	dialog(t, wordJob, append(slices.Clone(full), refused...)...)
	// One line more than there may be does nothing, and a shorter one is done.
	for _, line := range []string{"tick", "step 0", "step 1"} {
		dialog(t, wordJob, append(slices.Clone(most), line+" 199 -> ok", line+" 2 -> no", line+" 1 -> ok", line+" 1 -> no", line+" -> no")...)
		dialog(t, wordJob, append(slices.Clone(most), line+" 199 -> ok", line+" -> ok", line+" -> no", line+" 200 -> no")...)
		dialog(t, wordJob, append(slices.Clone(most), line+" 100 -> ok", line+" 101 -> no", line+" 200 -> no", line+" 100 -> ok", line+" -> no")...)
		dialog(t, wordJob, append(slices.Clone(most), "crash 0 -> ok", line+" 200 -> no", line+" 199 -> ok", "crash 0 -> no", line+" -> no")...)
	}
	dialog(t, wordJob, append(slices.Clone(most), "tick 199 -> ok", "crash 0 -> ok", "crash 0 -> no", "tick -> no")...)
	// What is refused or unknown, and what only reads, is no event.
	dialog(t, wordJob, append(slices.Clone(most), "tick 199 -> ok", "step 2 -> no", "tick 0 -> no", "tick 201 -> no", "fly -> what", "tick x -> what", "mode 0 -> 12 2", "count job -> 1", "outcome -> done | a=2 b=1", "workers 5 -> no", "tick -> ok", "tick -> no")...)
	// Only a new world makes room for further events.
	dialog(t, wordJob, append(slices.Clone(full), "workers 0 -> no", "tick -> no", "workers 5 -> no", "tick -> no", "workers x -> what", "tick -> no", "workers -> what", "step 0 -> no", "mode 0 -> 12 2", "workers 1 -> ok", "mode 0 -> 1 0", "tick -> ok", "step 0 200 -> ok", "step 1 -> no", "mode 0 -> 12 2")...)
	dialog(t, wordJob, slices.Concat(full, []string{"tick -> no"}, full, []string{"tick -> no"}, full, refused)...)
	// A lease shows that the time did not advance by a part of the ticks.
	dialog(t, wordJob, "workers 2 -> ok", "tick 200 -> ok", "tick 200 -> ok", "tick 200 -> ok", "tick 200 -> ok", "tick 190 -> ok", "step 1 3 -> ok", "board -> taken 1 1, free 0", "tick 8 -> no", "board -> taken 1 1, free 0", "tick 4 -> ok", "board -> taken 1 1, free 0", "tick 4 -> no", "board -> taken 1 1, free 0", "tick -> ok", "board -> free 1, free 0", "tick 2 -> ok", "tick -> no")
}

// The modes of the only worker, after each step.
func TestScriptModes(t *testing.T) {
	lines := []string{"workers 1 -> ok", "mode 0 -> 1 0"}
	for _, mode := range strings.Split("2 0,3 0,4 0,6 0,7 0,1 0,1 1,2 1,3 1,4 1,5 1,6 1,7 1,1 1,8 2,9 2,10 2,11 2,9 2", ",") {
		lines = append(lines, "step 0 -> ok", "mode 0 -> "+mode)
	}
	dialog(t, wordJob, lines...)
	dialog(t, wordJob, "workers 4 -> ok", "step 2 -> ok", "step 3 5 -> ok", "step 1 2 -> ok", "mode 0 -> 1 0", "mode 1 -> 1 1", "mode 2 -> 2 0", "mode 3 -> 7 0", "mode 4 -> no", "mode -1 -> no", "crash 3 -> ok", "mode 3 -> 1 0", "crash 1 -> ok", "mode 1 -> 1 0", "mode 2 -> 2 0")
}

// The keys whose number is counted, as they come and go.
func TestScriptCounts(t *testing.T) {
	dialog(t, pairJob,
		"workers 2 -> ok", "count in/ -> 2", "count in/1 -> 1", "count in/2 -> 0", "count i -> 2", "count claim -> 0", "count job -> 0",
		"step 0 6 -> ok", "count claim/ -> 1", "count out/ -> 2", "count out/0/1/0/1 -> 1", "count mark/ -> 0", "step 0 -> ok", "count mark/ -> 1", "count mark/1 -> 0",
		"step 1 100 -> ok", "count job -> 1", "count jobs -> 0", "count mark/ -> 4", "count res/ -> 2", "count out/ -> 0", "count claim/ -> 0", "count / -> 0", "count r -> 2", "count in/ -> 2",
	)
}

// The board and the outcome before, at and behind the end of a job, and its
// result, of jobs that succeed and of jobs that fail.
func TestScriptOutcomes(t *testing.T) {
	dialog(t, wordJob,
		"result -> done | a=2 b=1", "workers 1 -> ok", "result -> done | a=2 b=1", "board -> free 0, free 0", "outcome -> open",
		"step 0 5 -> ok", "board -> taken 1 0, free 0", "step 0 -> ok", "board -> done 1 0, free 0", "outcome -> open",
		"step 0 8 -> ok", "board -> done 1 0, done 1 0", "outcome -> open", "step 0 -> ok", "outcome -> open", "mode 0 -> 8 2", "step 0 -> ok", "outcome -> done | a=2 b=1", "board -> done 1 0, done 1 0",
		"step 0 200 -> ok", "outcome -> done | a=2 b=1", "board -> done 1 0, done 1 0", "tick 200 -> ok", "crash 0 -> ok", "step 0 100 -> ok", "outcome -> done | a=2 b=1", "board -> done 1 0, done 1 0", "result -> done | a=2 b=1",
	)
	dialog(t, pairJob, "result -> done | a=1 c=1 | b=2", "workers 2 -> ok", "outcome -> open", "step 1 200 -> ok", "outcome -> done | a=1 c=1 | b=2", "board -> done 1 1, done 1 1, done 1 1, done 1 1")
	long := "split 1\n" + longKey(41) + "\n"
	dialog(t, "job sum 1 each\nf0 n1 emit\n"+long+"split 1\na\n",
		"result -> failed 0", "workers 2 -> ok", "result -> failed 0", "outcome -> open", "step 1 5 -> ok", "board -> failed 1 1, free 0, free 0", "outcome -> open", "step 1 60 -> ok", "board -> failed 1 1, done 1 1, failed 1 1", "outcome -> failed 0", "tick 100 -> ok", "outcome -> failed 0", "result -> failed 0",
	)
	dialog(t, "job max 2 each\nf0 n1 emit\nsplit 1\na\n"+long+long, "workers 1 -> ok", "step 0 200 -> ok", "board -> done 1 0, failed 1 0, failed 1 0, failed 1 0, failed 1 0", "outcome -> failed 1", "result -> failed 1")
	// A reduce task that fails, and parts without records.
	dialog(t, jobText(heavyJobs()[1]), "workers 1 -> ok", "step 0 200 -> ok", "outcome -> "+resultText(resultModel(heavyJobs()[1])), "result -> "+resultText(resultModel(heavyJobs()[1])))
	many := wordsJob(impl.CbMin, 1, wordsIn(0, 1, 51), wordsIn(0, 1, 101)[51:])
	many.Prog = anyProg("f0 n1 emit t:a f0 cat n1 emit t:b f0 cat n1 emit t:c f0 cat n1 emit t:d f0 cat n1 emit t:e f0 cat n1 emit")
	dialog(t, jobText(many), "result -> failed 2", "workers 1 -> ok", "step 0 100 -> ok", "outcome -> failed 2", "board -> done 1 0, done 1 0, failed 1 0")
	dialog(t, "job sum 3 line\n\nsplit 0\n", "result -> done | | |", "workers 4 -> ok", "step 3 60 -> ok", "outcome -> done | | |", "board -> done 1 3, done 1 3, done 1 3, done 1 3")
	dialog(t, "job sum 1 each\nf0 f0 int emit\nsplit 3\n| =\n9223372036854775807 -9223372036854775808\n\ta=1 \r\n", "result -> done | \ta=1=0 \r=0 -9223372036854775808=-9223372036854775808 9223372036854775807=9223372036854775807 ==0 |=0", "workers 1 -> ok", "step 0 50 -> ok", "outcome -> done | \ta=1=0 \r=0 -9223372036854775808=-9223372036854775808 9223372036854775807=9223372036854775807 ==0 |=0")
	dialog(t, "job count 1 line\nt: n5 emit\nsplit 2\n\n\n", "result -> done | =2")
}

// The outcome of every job, and its boards, are those of the models.
func TestScriptJobs(t *testing.T) {
	for _, j := range append(lightJobs(t), heavyJobs()...) {
		text := jobText(j) + ".\nresult\nworkers 3\nboard\n" + strings.Repeat("step 1 7\nboard\noutcome\n", 4) + "tick 5\nboard\nstep 0 200\nstep 2 100\nboard\noutcome\nresult\ncount m\n"
		outputs := outputsOf(t, text)
		if model := outputsModel(text); !slices.Equal(outputs, model) {
			t.Errorf("the output of %.300q is %.1000q instead of %.1000q", text, outputs, model)
		}
		if n := len(outputs); outputs[n-3] != outputs[1] || outputs[n-2] != outputs[1] || outputs[0] != "ok" {
			t.Errorf("the outcome of %.300q is %.300q instead of %.300q", text, outputs[n-3], outputs[1])
		}
	}
	for _, text := range jobTexts() {
		prints(t, text+".\n", "ok")
	}
	for _, n := range []int64{0, 4, -1, math.MaxInt64} {
		prints(t, fmt.Sprintf("job sum %d each\nf0 n1 emit\nsplit 0\n.\n", n), "no")
	}
}

// randomLine returns a line, most often one of the table.
func randomLine(random *rand.Rand) string {
	of := func(words ...string) string { return words[random.Intn(len(words))] }
	worker := func() string { return of("0", "0", "0", "1", "1", "2", "3", "4", "-1") }
	times := func() string {
		return of("1", "2", "3", "5", "8", "20", "100", "200", "0", "201", fmt.Sprint(1+random.Intn(40)))
	}
	switch random.Intn(16) {
	case 0:
		return "workers " + of("1", "2", "3", "4", "0", "5")
	case 1, 2:
		return "step " + worker()
	case 3, 4, 5:
		return "step " + worker() + " " + times()
	case 6:
		return "tick"
	case 7:
		return "tick " + times()
	case 8:
		return "crash " + worker()
	case 9:
		return of("", " ", "fly", "workers", "step", "step x", "tick 01", "mode", "board 1", "count", ".", "\t", "step 0 1 1", "crash 0 1", "  ")
	}
	return randomReader(random)
}

// randomReader returns a line that only reads.
func randomReader(random *rand.Rand) string {
	of := func(words ...string) string { return words[random.Intn(len(words))] }
	switch random.Intn(5) {
	case 0:
		return "outcome"
	case 1:
		return of("result", " result", "result ")
	case 2:
		return "count " + of("in/", "claim/", "mark/", "out/", "res/", "job", "x", "c", "mark/1", "res/1/2")
	case 3:
		return "mode " + of("0", "1", "2", "3", "4", "-1")
	}
	return of("board", "  board ")
}

// randomScript returns the beginning of a script, up to its period, and lines.
func randomScript(random *rand.Rand, jobs []job) (head string, lines []string) {
	head = jobText(jobs[random.Intn(len(jobs))]) + ".\n"
	if random.Intn(20) == 0 {
		head = "x" + head
	}
	if random.Intn(8) > 0 {
		lines = append(lines, fmt.Sprint("workers ", 1+random.Intn(4)))
	}
	for range random.Intn(55) {
		lines = append(lines, randomLine(random))
	}
	return head, lines
}

func joinLines(head string, lines []string) string {
	for _, line := range lines {
		head += line + "\n"
	}
	return head
}

// Agreement with the model, for scripts of all kinds.
func TestScriptsOfRandomLines(t *testing.T) {
	random := rand.New(rand.NewSource(35))
	jobs := append(lightJobs(t), readJob(t, jobTexts()[2]), readJob(t, jobTexts()[7]))
	kinds := map[string]int{}
	for range 1500 {
		head, lines := randomScript(random, jobs)
		text := joinLines(head, lines)
		outputs := outputsOf(t, text)
		if model := outputsModel(text); !slices.Equal(outputs, model) {
			t.Fatalf("the output of %q is %q instead of %q", text, outputs, model)
		}
		for _, output := range outputs {
			word, _, _ := strings.Cut(output, " ")
			kinds[word]++
		}
	}
	for _, kind := range []string{"ok", "no", "none", "what", "open", "free", "taken", "done", "failed", "0", "12"} {
		if kinds[kind] < 50 {
			t.Errorf("only %d outputs of the kind %q", kinds[kind], kind)
		}
	}
}

// Promise 14: the output of a script does not change when further lines follow.
func TestScriptBeginnings(t *testing.T) {
	random := rand.New(rand.NewSource(36))
	for range 150 {
		head, lines := randomScript(random, lightJobs(t))
		if random.Intn(4) == 0 {
			lines = append(lines, "workers 1", "tick 200", "tick 200", "step 0 200", "tick 200", "step 0 199", "tick 2", "board", "tick", "tick", "outcome")
		}
		outputs := outputsOf(t, joinLines(head, lines))
		n := 1
		for i := 0; ; i++ {
			beginning := joinLines(head, lines[:i])
			if some := outputsOf(t, beginning); len(some) != n || !slices.Equal(some, outputs[:n]) {
				t.Fatalf("the output of %q is %q, but after further lines %q", beginning, some, outputs[:n])
			}
			if i == len(lines) {
				break
			}
			if spaced(lines[i]) != "" {
				n++
			}
		}
		if n != len(outputs) {
			t.Fatalf("%d outputs of %d lines: %q", len(outputs), n, joinLines(head, lines))
		}
	}
}

// Where further lines are too many, or have too many bytes, the output changes.
func TestScriptBeginningsAtLimits(t *testing.T) {
	text := wordJob + ".\nworkers 1\n"
	want := []string{"ok", "ok"}
	for n := strings.Count(text, "\n"); n < 80; n++ {
		prints(t, text, want...)
		text += "step 0\n"
		want = append(want, "ok")
	}
	prints(t, text, want...)
	isTooLong(t, text+"step 0\n")
	isTooLong(t, text+"board\n")

	text, want = wordJob+".\nworkers 1\n", []string{"ok", "ok"}
	line := "count " + strings.Repeat("i", 193) + "\n"
	for len(text)+len(line) <= 6000 {
		text += line
		want = append(want, "0")
		prints(t, text, want...)
	}
	isTooLong(t, text+line)
}

// Promise 14: lines that only read change nothing, and neither do lines that
// are refused.
func TestScriptReadersChangeNothing(t *testing.T) {
	random := rand.New(rand.NewSource(37))
	inserted := 0
	for range 200 {
		head, lines := randomScript(random, lightJobs(t))
		lines = slices.DeleteFunc(lines, func(line string) bool { return spaced(line) == "" })
		outputs := outputsOf(t, joinLines(head, lines))
		room := 80 - strings.Count(joinLines(head, lines), "\n")
		var mixed, want []string
		var added []bool
		for i := 0; i <= len(lines); i++ {
			for ; room > 0 && random.Intn(3) == 0; room-- {
				reader := randomReader(random)
				if random.Intn(4) == 0 {
					reader = []string{"step 9", "step 0 201", "tick 0", "workers 5", "workers 0", "crash -1", "fly", "step", "workers x", "tick 9 9"}[random.Intn(10)]
				}
				mixed, added = append(mixed, reader), append(added, true)
			}
			if i < len(lines) {
				mixed, added = append(mixed, lines[i]), append(added, false)
			}
		}
		all := outputsOf(t, joinLines(head, mixed))
		if len(all) != len(mixed)+1 {
			t.Fatalf("%d outputs of %q", len(all), joinLines(head, mixed))
		}
		want = append(want, all[0])
		for i, is := range added {
			if is {
				inserted++
			} else {
				want = append(want, all[i+1])
			}
		}
		if !slices.Equal(want, outputs) {
			t.Fatalf("the outputs of %q are %q, but those of the same lines in %q are %q", joinLines(head, lines), outputs, joinLines(head, mixed), want)
		}
	}
	if inserted < 1000 {
		t.Errorf("only %d lines were inserted", inserted)
	}
}

// Promise 14, for each line that only reads, behind each line that changes.
func TestScriptEachReader(t *testing.T) {
	changing := []string{"workers 2", "step 0 3", "tick 2", "step 1 9", "tick 3", "step 1 4", "crash 0", "step 0 7", "step 1 30", "tick", "step 0 9", "workers 1", "step 0 17", "crash 0", "step 0 70"}
	want := outputsOf(t, joinLines(pairJob+".\n", changing))
	for _, reader := range []string{"board", "outcome", "result", "count in/", "count c", "count x", "mode 0", "mode 1", "mode 2"} {
		var lines []string
		for _, line := range changing {
			lines = append(lines, line, reader, reader)
		}
		outputs := outputsOf(t, joinLines(pairJob+".\n", lines))
		for i := range changing {
			if outputs[3*i+1] != want[i+1] || outputs[3*i+2] != outputs[3*i+3] {
				t.Errorf("%q behind %q: %q", reader, changing[i], outputs[3*i+1:3*i+4])
			}
		}
	}
}

// Promise 15: equal arguments yield equal results, also at the same time.
func TestScriptsAreRepeated(t *testing.T) {
	random := rand.New(rand.NewSource(38))
	for range 10 {
		head, lines := randomScript(random, lightJobs(t))
		text := joinLines(head, append(lines, "result", "workers 4", "step 3 200", "outcome", "board"))
		want := impl.RunScript(text)
		var running sync.WaitGroup
		for range 6 {
			running.Go(func() {
				for range 4 {
					if output := impl.RunScript(text); output != want {
						t.Errorf("the output of %q is %q, then %q", text, want, output)
					}
				}
			})
		}
		running.Wait()
	}
}
