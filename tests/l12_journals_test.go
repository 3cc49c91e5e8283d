package tests

import (
	"encoding/binary"
	"fmt"
	"hash/crc32"
	"math"
	"math/rand"
	"slices"
	"strings"
	"sync"
	"testing"

	"loop.example/g00703/impl"
)

type act = impl.Act

// frameModel is the document's frame of any data.
func frameModel(data string) string {
	header := binary.BigEndian.AppendUint32(nil, uint32(len(data)))
	header = binary.LittleEndian.AppendUint32(header, crc32.ChecksumIEEE([]byte(data)))
	return string(header) + data
}

// framesModel is the document's TakeFrames.
func framesModel(s string) (l []string, end int64) {
	for len(s) >= 8 {
		size := uint64(binary.BigEndian.Uint32([]byte(s)))
		if size > 100000 || size > uint64(len(s)-8) || frameModel(s[8:8+size]) != s[:8+size] {
			break
		}
		l = append(l, s[8:8+size])
		s = s[8+size:]
		end += int64(8 + size)
	}
	return l, end
}

// takes fails if TakeFrames is not what the model says.
func takes(t *testing.T, s string) []string {
	t.Helper()
	l, end := impl.TakeFrames(s)
	if want, n := framesModel(s); end != n || !slices.Equal(l, want) {
		t.Errorf("TakeFrames of %.200q returns %d elements and %d instead of %d and %d", s, len(l), end, len(want), n)
	}
	return l
}

// takesUpTo fails if TakeFrames does not return n elements and this offset.
func takesUpTo(t *testing.T, name, s string, n, end int) {
	t.Helper()
	if l, at := impl.TakeFrames(s); len(takes(t, s)) != n || len(l) != n || at != int64(end) {
		t.Errorf("%s: TakeFrames returns %d elements and %d instead of %d and %d", name, len(l), at, n, end)
	}
}

// entry returns the frame of a command behind n others.
func entry(n int, c cmd) string { return frameModel(fmt.Sprint(n) + " " + cmdText(c)) }

// logOf returns a complete log.
func logOf(list ...cmd) string {
	log := ""
	for i, c := range list {
		log += entry(i, c)
	}
	return log
}

// manyCmds returns n different commands.
func manyCmds(n int) []cmd {
	list := make([]cmd, n)
	for i := range list {
		switch key := fmt.Sprint("k/", i/3); i % 3 {
		case 0:
			list[i] = create(key, "d")
		case 1:
			list[i] = put(key, 1, "")
		case 2:
			list[i] = del(key, 2)
		}
	}
	return list
}

// logModel returns the commands of the frames of a log that count, and the
// number of their bytes.
func logModel(log string) (list []cmd, size int) {
	l, _ := framesModel(log)
	for i, data := range l {
		number, text, _ := strings.Cut(data, " ")
		c, ok := impl.ReadCmd(text)
		if i == 200 || !ok || number != fmt.Sprint(i) {
			break
		}
		list = append(list, c)
		size += 8 + len(data)
	}
	return list, size
}

// stopped is the code with which an action of the model ends early.
type stopped int64

// actModel performs the steps of an action.
type actModel struct {
	d    disk
	left int64
}

func (m *actModel) spend() {
	if m.left == 0 {
		panic(stopped(impl.StPower))
	}
	if m.left > 0 {
		m.left--
	}
}

func (m *actModel) do(o dop) {
	m.spend()
	next, code := doModel(m.d, o)
	if code != impl.DkOk {
		panic(stopped(impl.StFull))
	}
	m.d = next
}

func (m *actModel) sync() {
	m.spend()
	m.d = synced(m.d.Live)
}

func (m *actModel) open(log string) {
	_, size := logModel(log)
	if size == len(log) {
		return
	}
	if _, found := folderModelOf(m.d.Live)["log.new"]; found {
		m.do(remove("log.new"))
	}
	m.do(extend("log.new", log[:size]))
	m.sync()
	m.do(rename("log.new", "log"))
	m.sync()
}

func (m *actModel) add(log string, a act) {
	list, size := logModel(log)
	switch {
	case !impl.CmdOk(a.C):
		panic(stopped(impl.StForm))
	case size < len(log):
		panic(stopped(impl.StTorn))
	case len(list) == 200:
		panic(stopped(impl.StFull))
	}
	m.do(extend("log", entry(len(list), a.C)))
	if a.Sync {
		m.sync()
	}
}

func (m *actModel) perform(a act) {
	log, found := folderModelOf(m.d.Live)["log"]
	switch {
	case a.Kind == impl.AcNew && found:
		panic(stopped(impl.StForm))
	case a.Kind == impl.AcNew:
		m.do(extend("log", ""))
		m.sync()
	case !found:
		panic(stopped(impl.StNone))
	case a.Kind == impl.AcAdd:
		m.add(log, a)
	default:
		m.open(log)
	}
}

// storeModel is the document's StoreDo.
func storeModel(d disk, a act) (after disk, code int64) {
	if !diskModel(d) {
		return disk{}, impl.StDisk
	}
	if a.Kind < 1 || a.Kind > 4 {
		return d, impl.StForm
	}
	if a.Kind == impl.AcCrash {
		crashed, ok := crashModel(d, a.Keep, a.Torn)
		if !ok {
			return d, impl.StForm
		}
		d = crashed
	}
	m := &actModel{d: d, left: a.Power}
	defer func() {
		if why, is := recover().(stopped); is {
			after, code = d, int64(why)
		}
		if code == impl.StPower {
			after = m.d
		}
	}()
	m.perform(a)
	return m.d, impl.StOk
}

func showAct(a act) string {
	return fmt.Sprintf("kind %d of %.100q, sync %v, power %d, keep %v, torn %d", a.Kind, fmt.Sprint(a.C), a.Sync, a.Power, a.Keep, a.Torn)
}

// acts fails if an action does not do what the model says.
func acts(t *testing.T, d disk, a act) (disk, int64) {
	t.Helper()
	next, code := impl.StoreDo(d, a)
	if want, c := storeModel(d, a); code != c || !sameDisk(next, want) || !impl.DiskOk(next) {
		t.Fatalf("%s on %s has the code %d instead of %d and makes %s", showAct(a), showDisk(d), code, c, showDisk(next))
	}
	return next, code
}

// actsWith fails if an action has another code than the given one.
func actsWith(t *testing.T, d disk, a act, want int64) disk {
	t.Helper()
	next, code := acts(t, d, a)
	if code != want {
		t.Fatalf("%s on %s has the code %d instead of %d", showAct(a), showDisk(d), code, want)
	}
	return next
}

// unchanged fails if an action has another code than the given one, or the
// disk changes.
func unchanged(t *testing.T, d disk, a act, want int64) {
	t.Helper()
	if next := actsWith(t, d, a, want); !sameDisk(next, d) {
		t.Errorf("%s on %s makes %s", showAct(a), showDisk(d), showDisk(next))
	}
}

// Actions with all the power that they need.
func newLog() act { return act{Kind: impl.AcNew, Power: -1} }

func adding(c cmd, sync bool) act { return act{Kind: impl.AcAdd, C: c, Sync: sync, Power: -1} }

func opening() act { return act{Kind: impl.AcOpen, Power: -1} }

func crashing(keep []int64, torn int64) act {
	return act{Kind: impl.AcCrash, Keep: keep, Torn: torn, Power: -1}
}

// powered returns the action with another power.
func powered(a act, power int64) act {
	a.Power = power
	return a
}

// views fails if the commands of the journal of a disk are others.
func views(t *testing.T, d disk, want ...cmd) {
	t.Helper()
	if list, code := impl.StoreView(d); code != impl.StOk || !slices.Equal(list, want) {
		t.Errorf("the code is %d and there are %d commands instead of %d on %s", code, len(list), len(want), showDisk(d))
	}
}

// viewsNone fails if the journal has another code than the given one.
func viewsNone(t *testing.T, d disk, want int64) {
	t.Helper()
	if list, code := impl.StoreView(d); code != want || len(list) != 0 {
		t.Errorf("the code is %d instead of %d, with %d commands on %s", code, want, len(list), showDisk(d))
	}
	if s, codes, code := impl.Recovered(d); code != want || len(codes) != 0 || !emptyStore(s) {
		t.Errorf("the code is %d instead of %d, with %d codes and %s", code, want, len(codes), showStore(s))
	}
}

// exampleCmds are the commands of the examples of chapter 12.
func exampleCmds() []cmd { return []cmd{create("a", "x"), put("a", 1, ""), del("a", 2)} }

// exampleJournal is the disk of the examples of chapter 12.
func exampleJournal(t *testing.T) disk {
	t.Helper()
	d := actsWith(t, disk{}, newLog(), impl.StOk)
	for _, c := range exampleCmds() {
		d = actsWith(t, d, adding(c, false), impl.StOk)
	}
	return d
}

func TestJournalConstants(t *testing.T) {
	if impl.StOk != 0 || impl.StDisk != 1 || impl.StNone != 2 || impl.StForm != 3 || impl.StFull != 4 || impl.StPower != 5 || impl.StTorn != 6 {
		t.Error("a code of chapter 12 has another value")
	}
	if impl.AcNew != 1 || impl.AcAdd != 2 || impl.AcOpen != 3 || impl.AcCrash != 4 {
		t.Error("a kind of chapter 12 has another value")
	}
}

func TestJournalExamples(t *testing.T) {
	f := impl.FrameOf("abc")
	if f != "\x00\x00\x00\x03\xc2\x41\x24\x35abc" {
		t.Errorf("the frame is %q", f)
	}
	takesUpTo(t, "two frames", f+f+"x", 2, 22)
	d := exampleJournal(t)
	list := exampleCmds()
	views(t, d, list...)
	views(t, actsWith(t, d, crashing([]int64{0, 1}, 99), impl.StOk), list[:2]...)
	views(t, actsWith(t, d, crashing([]int64{1}, 99), impl.StOk))
	views(t, actsWith(t, d, crashing([]int64{0, 1, 2}, 9), impl.StOk), list[:2]...)
	unchanged(t, d, newLog(), impl.StForm)
	unchanged(t, disk{}, opening(), impl.StNone)
	after, codes := impl.StorePlay(d, []act{opening(), {Kind: 9}})
	if !sameDisk(after, d) || !slices.Equal(codes, []int64{impl.StOk, impl.StForm}) {
		t.Errorf("the codes are %v, with %s", codes, showDisk(after))
	}
	viewsNone(t, disk{}, impl.StNone)
}

func TestFrameOf(t *testing.T) {
	random := rand.New(rand.NewSource(23))
	bytes := make([]byte, 100001)
	random.Read(bytes)
	check := func(data string) {
		t.Helper()
		f := impl.FrameOf(data)
		if f != frameModel(data) {
			t.Errorf("the frame of %.50q begins with %.50q instead of %.50q", data, f, frameModel(data))
		}
		takesUpTo(t, "a frame", f, 1, len(f))
	}
	for n := range 600 {
		check(string(bytes[:n]))
	}
	for _, n := range []int{65535, 65536, 65537, 99999, 100000} {
		check(string(bytes[:n]))
		check(strings.Repeat("\x00", n))
		check(strings.Repeat("\xff", n))
	}
	for b := range 256 {
		check(string([]byte{byte(b)}))
		check(string([]byte{0, byte(b), 0}))
	}
	for _, n := range []int{100001, 100002, 1 << 20} {
		if f := impl.FrameOf(strings.Repeat("x", n)); f != "" {
			t.Errorf("the frame of %d bytes has %d", n, len(f))
		}
	}
	if f := impl.FrameOf(""); f != strings.Repeat("\x00", 8) {
		t.Errorf("the frame of no data is %q", f)
	}
}

func TestTakeFrames(t *testing.T) {
	a, b, none := frameModel("abc"), frameModel(strings.Repeat("b", 300)), frameModel("")
	takesUpTo(t, "nothing", "", 0, 0)
	for n := range b {
		takesUpTo(t, "a frame that is cut off", b[:n], 0, 0)
		takesUpTo(t, "a frame that is cut off", a+none+b[:n], 2, 19)
		if n > 0 {
			takesUpTo(t, "a frame whose beginning is cut off", a+b[n:]+a+a, 1, 11)
		}
	}
	for n := range 20 {
		takesUpTo(t, "zero bytes", strings.Repeat("\x00", n), n/8, n/8*8)
		takesUpTo(t, "frames and bytes", strings.Repeat(a, n)+strings.Repeat("x", n), n, 11*n)
	}
	takesUpTo(t, "many frames", strings.Repeat(a, 5000), 5000, 55000)
	takesUpTo(t, "a wrong sum", a+a[:7]+"\x00abc"+a, 1, 11)
	takesUpTo(t, "other data", a+a[:8]+"abd"+a, 1, 11)
	takesUpTo(t, "the sum in the other order", a+"\x00\x00\x00\x03\x35\x24\x41\xc2abc"+a, 1, 11)
	takesUpTo(t, "the length in the other order", a+"\x03\x00\x00\x00\xc2\x41\x24\x35abc"+a, 1, 11)
	long := strings.Repeat("x", 100001)
	takesUpTo(t, "100000 bytes", a+frameModel(long[1:])+a, 3, 11+100008+11)
	takesUpTo(t, "100001 bytes", a+frameModel(long)+a, 1, 11)
	takesUpTo(t, "200000 bytes", frameModel(strings.Repeat("x", 200000)), 0, 0)
	for _, length := range []string{"\xff\xff\xff\xff", "\x80\x00\x00\x00", "\x7f\xff\xff\xff", "\xff\xff\xff\xf8", "\x01\x00\x00\x03", "\x00\x01\x00\x03", "\x00\x00\x01\x03"} {
		takesUpTo(t, "a long length", a+length+a[4:]+long, 1, 11)
		takesUpTo(t, "a long length", a+length+a[4:], 1, 11)
		takesUpTo(t, "a long length", length, 0, 0)
	}
	for _, s := range []string{a, none, a + a, none + a + none} {
		near(s, func(s string) { takes(t, s) })
	}
}

// isLog fails if other commands of a log count, or what AcAdd, AcOpen and
// Recovered make of it does not agree with them.
func isLog(t *testing.T, name, log string, want ...cmd) {
	t.Helper()
	d := synced(filesOf("log", log))
	views(t, d, want...)
	wanted, size := logModel(log)
	if !slices.Equal(wanted, want) {
		t.Fatalf("%s: the model has %d commands instead of %d", name, len(wanted), len(want))
	}
	opened := actsWith(t, d, opening(), impl.StOk)
	if !sameDisk(opened, synced(filesOf("log", logOf(want...)))) {
		t.Errorf("%s: AcOpen makes %s", name, showDisk(opened))
	}
	full := len(want) == 200
	switch {
	case size < len(log):
		unchanged(t, d, adding(create("z", ""), false), impl.StTorn)
	case full:
		unchanged(t, d, adding(create("z", ""), false), impl.StFull)
	default:
		views(t, actsWith(t, d, adding(create("z", ""), false), impl.StOk), append(slices.Clone(want), create("z", ""))...)
	}
	if !full {
		opened = actsWith(t, opened, adding(del("z", 1), true), impl.StOk)
		views(t, opened, append(slices.Clone(want), del("z", 1))...)
	}
	s, codes, code := impl.Recovered(d)
	played, playedCodes := folded(want)
	if code != impl.StOk || !slices.Equal(codes, playedCodes) || !sameStore(s, played) {
		t.Errorf("%s: %d, %v with %s is recovered", name, code, codes, showStore(s))
	}
}

// Frames that do not count, and what is behind them.
func TestLogs(t *testing.T) {
	list := exampleCmds()
	log := logOf(list...)
	text := cmdText(list[2])
	isLog(t, "no command", "")
	for n := range 4 {
		isLog(t, "some commands", logOf(list[:n]...), list[:n]...)
	}
	ends := []int{0, len(logOf(list[:1]...)), len(logOf(list[:2]...)), len(log)}
	for n := range log {
		at := 0
		for ends[at+1] <= n {
			at++
		}
		isLog(t, "a log that is cut off", log[:n], list[:at]...)
		isLog(t, "a changed byte", log[:n]+string([]byte{log[n] ^ 1})+log[n+1:], list[:at]...)
		isLog(t, "a missing byte", log[:n]+log[n+1:], list[:at]...)
	}
	for n := range 20 {
		isLog(t, "zero bytes", log+strings.Repeat("\x00", n), list...)
		isLog(t, "other bytes", log+strings.Repeat("x", n), list...)
	}
	two := logOf(list[:2]...)
	for _, data := range []string{
		"", " ", "2", "2 ", text, " " + text, "0 " + text, "1 " + text, "3 " + text, "20 " + text, "02 " + text, "002 " + text, "+2 " + text, "-2 " + text, " 2 " + text,
		"2  " + text, "2\t" + text, "2" + text, "2, " + text, "2 " + text + " ", "2 " + text + "\n", "2 2 " + text, "2.0 " + text, "0x2 " + text, "two " + text, "\x32\x00 " + text,
		"2 put a 0 -", "2 create A -", "2 create a", "2 create a - ", "2 create a 1 -", "2 create a 6", "2 create a 6A", "2 Create a -", "2 del a 01", "2 del a", "2 del a 1 -", "2 put a 1000001 -", "2 copy a 1", "2 -",
		"18446744073709551618 " + text, "2" + strings.Repeat("0", 400) + " " + text,
	} {
		isLog(t, fmt.Sprintf("a frame with %.30q", data), two+frameModel(data)+entry(2, list[2])+entry(3, list[0]), list[:2]...)
		isLog(t, fmt.Sprintf("a frame with %.30q", data), two+frameModel(data)+entry(3, list[2]), list[:2]...)
		if !strings.HasPrefix(data, "0") {
			isLog(t, fmt.Sprintf("a frame with %.30q", data), frameModel(data)+log)
		}
	}
	isLog(t, "a frame without bytes", two+impl.FrameOf("")+entry(2, list[2]), list[:2]...)
	isLog(t, "equal frames", entry(0, list[0])+entry(0, list[0]), list[0])
	isLog(t, "two frames 0", entry(0, list[2])+log, list[2])
	isLog(t, "another order", entry(1, list[0])+entry(0, list[1]))
	isLog(t, "no 0", entry(1, list[0])+entry(2, list[1]))
	isLog(t, "a gap", entry(0, list[0])+entry(2, list[1])+entry(1, list[1]), list[0])
}

// At most 200 frames count.
func TestLogLimit(t *testing.T) {
	list := manyCmds(250)
	for _, n := range []int{9, 10, 11, 99, 100, 101, 198, 199, 200} {
		isLog(t, fmt.Sprint(n, " commands"), logOf(list[:n]...), list[:n]...)
		isLog(t, fmt.Sprint(n, " commands and a byte"), logOf(list[:n]...)+"x", list[:n]...)
	}
	for _, n := range []int{201, 202, 250} {
		isLog(t, fmt.Sprint(n, " commands"), logOf(list[:n]...), list[:200]...)
	}
}

// Logs of random frames, most of which have the right number.
func TestRandomLogs(t *testing.T) {
	random := rand.New(rand.NewSource(24))
	seen := map[int]int{}
	for range 400 {
		log := ""
		n := 0
		for range random.Intn(9) {
			switch c := manyCmds(30)[random.Intn(30)]; random.Intn(12) {
			case 0:
				log += frameModel(fmt.Sprint(n, " ", "copy a"))
			case 1:
				log += entry(n+random.Intn(2), c)
			case 2:
				f := entry(n, c)
				log += f[:random.Intn(len(f))]
			default:
				log += entry(n, c)
				n++
			}
		}
		want, _ := logModel(log)
		seen[len(want)]++
		isLog(t, "a random log", log, want...)
	}
	if len(seen) < 7 {
		t.Errorf("the lengths are %v", seen)
	}
}

func TestView(t *testing.T) {
	c := create("a", "x")
	viewsNone(t, disk{}, impl.StNone)
	viewsNone(t, synced(filesOf("Log", logOf(c), "log.new", logOf(c), "log1", logOf(c))), impl.StNone)
	viewsNone(t, disk{Safe: filesOf("log", logOf(c)), Ops: []dop{remove("log")}}, impl.StNone)
	for name, d := range badDisks() {
		viewsNone(t, d, impl.StDisk)
		for _, a := range allActs() {
			if next, code := impl.StoreDo(d, a); code != impl.StDisk || !emptyDisk(next) {
				t.Errorf("%s: %s has the code %d and makes %s", name, showAct(a), code, showDisk(next))
			}
		}
		if next, codes := impl.StorePlay(d, allActs()); len(codes) != 0 || !emptyDisk(next) {
			t.Errorf("%s: the codes are %v, with %s", name, codes, showDisk(next))
		}
	}
	bad := synced(filesOf("log", logOf(c)))
	bad.Safe = nil
	viewsNone(t, bad, impl.StDisk)
	views(t, disk{Live: filesOf("log", logOf(c)), Ops: []dop{extend("log", logOf(c))}}, c)
	views(t, disk{Live: filesOf("log", logOf(c)), Safe: filesOf("log.new", logOf(c)), Ops: []dop{rename("log.new", "log")}}, c)
}

// allActs returns actions of each kind, and of none.
func allActs() []act {
	var list []act
	for kind := int64(-1); kind <= 5; kind++ {
		for _, c := range []cmd{create("a", "x"), put("a", 0, "")} {
			list = append(list, act{Kind: kind, C: c, Power: -1}, act{Kind: kind, C: c, Sync: true, Power: 0, Torn: 3}, act{Kind: kind, C: c, Power: 1, Torn: -1}, act{Kind: kind, C: c, Power: 2, Keep: []int64{0}, Torn: 3}, act{Kind: kind, C: c, Power: 9, Keep: []int64{0, 0}})
		}
	}
	return list
}

// tornLog is a log of one command, and the beginning of another one.
func tornLog() string {
	log := logOf(exampleCmds()...)
	return log[:len(logOf(exampleCmds()[0]))+9]
}

// journals are valid disks with a journal in each of its states, and without
// one.
func journals(t *testing.T) map[string]disk {
	unsynced := exampleJournal(t)
	log := logOf(exampleCmds()...)
	return map[string]disk{
		"an empty disk":                 {},
		"no log":                        synced(filesOf("a", "1", "log.new", log)),
		"a removed log":                 {Safe: filesOf("log", log), Ops: []dop{remove("log")}},
		"a log that was not synced":     {Live: filesOf("log", ""), Ops: []dop{extend("log", "")}},
		"an empty log":                  synced(filesOf("log", "")),
		"a synced log":                  impl.Sync(unsynced),
		"three commands":                unsynced,
		"a complete log and log.new":    synced(filesOf("log", log, "log.new", "x")),
		"a torn log":                    synced(filesOf("log", tornLog())),
		"a torn log and log.new":        synced(filesOf("a", "1", "log", tornLog(), "log.new", log)),
		"a torn log, not synced":        doesAll(t, synced(filesOf("log", "")), extend("log", log), extend("log", "x")),
		"a torn log, log.new appended":  doesAll(t, synced(filesOf("log", tornLog())), extend("log.new", logOf(exampleCmds()[0]))),
		"a torn log, log.new removed":   doesAll(t, synced(filesOf("log", tornLog(), "log.new", "x")), remove("log.new")),
		"a log renamed, not synced":     doesAll(t, synced(filesOf("log", tornLog(), "log.new", logOf(exampleCmds()[0]))), rename("log.new", "log")),
		"200 commands":                  synced(filesOf("log", logOf(manyCmds(200)...))),
		"201 commands":                  synced(filesOf("log", logOf(manyCmds(201)...))),
		"200 commands that are torn":    synced(filesOf("log", logOf(manyCmds(200)...)+"x")),
		"199 operations, a log":         withLog(manyOps(199), log),
		"200 operations, a log":         withLog(manyOps(200), log),
		"198 operations, a torn log":    withLog(manyOps(198), tornLog()),
		"199 operations, a torn log":    withLog(manyOps(199), tornLog()),
		"200 operations, a torn log":    withLog(manyOps(200), tornLog()),
		"199 operations, no log":        manyOps(199),
		"200 operations, no log":        manyOps(200),
		"59 files, no log":              synced(numberedFiles(59, "")),
		"60 files, no log":              synced(numberedFiles(60, "")),
		"59 files, a torn log":          withLog(synced(numberedFiles(58, "")), tornLog()),
		"60 files, a torn log":          withLog(synced(numberedFiles(59, "")), tornLog()),
		"60 files, a log":               withLog(synced(numberedFiles(59, "")), log),
		"no bytes for more, a log":      withLog(synced(filesOf("a", strings.Repeat("x", 200000-len(log)))), log),
		"few bytes for more, a log":     withLog(synced(filesOf("a", strings.Repeat("x", 200000-len(log)-19))), log),
		"no bytes for more, a torn log": withLog(synced(filesOf("a", strings.Repeat("x", 200000-len(tornLog())))), tornLog()),
		"bytes of log.new, a torn log":  synced(filesOf("log", tornLog(), "log.new", strings.Repeat("x", 200000-len(tornLog())))),
	}
}

// withLog returns the disk with a log that was synced.
func withLog(d disk, log string) disk {
	add := func(l []file) []file {
		m := folderModelOf(l)
		m["log"] = log
		return m.list()
	}
	return disk{Live: add(d.Live), Safe: add(d.Safe), Ops: d.Ops}
}

// Every action with each power on every journal is as in the model.
func TestActions(t *testing.T) {
	count := map[string]int{}
	for name, d := range journals(t) {
		diskIs(t, name, d, true)
		for _, a := range allActs() {
			for _, power := range []int64{-1, 0, 1, 2, 3, 4, 5, 6} {
				_, code := acts(t, d, powered(a, power))
				count[fmt.Sprint(min(max(a.Kind, 0), 5), " ", code)]++
			}
		}
	}
	for _, want := range []string{"0 3", "1 0", "1 3", "1 4", "1 5", "2 0", "2 2", "2 3", "2 4", "2 5", "2 6", "3 0", "3 2", "3 4", "3 5", "4 0", "4 2", "4 3", "4 4", "4 5", "5 3"} {
		if count[want] == 0 {
			t.Errorf("no action has the kind and code %s", want)
		}
		delete(count, want)
	}
	if len(count) > 0 {
		t.Errorf("kinds and codes that there should not be: %v", count)
	}
}

// The steps of each action, one after the other: with less power it ends
// behind as many of them, and with more nothing else is done.
func TestPower(t *testing.T) {
	disks := journals(t)
	c := create("b", "")
	frame := func(n int) dop { return extend("log", entry(n, c)) }
	kept := extend("log.new", logOf(exampleCmds()[0]))
	sync := dop{}
	moved := rename("log.new", "log")
	for _, r := range []struct {
		name  string
		a     act
		steps []dop
	}{
		{"an empty disk", newLog(), []dop{extend("log", ""), sync}},
		{"a removed log", newLog(), []dop{extend("log", ""), sync}},
		{"no log", newLog(), []dop{extend("log", ""), sync}},
		{"an empty log", adding(c, false), []dop{frame(0)}},
		{"an empty log", adding(c, true), []dop{frame(0), sync}},
		{"three commands", adding(c, false), []dop{frame(3)}},
		{"three commands", adding(c, true), []dop{frame(3), sync}},
		{"a log renamed, not synced", adding(c, true), []dop{frame(1), sync}},
		{"a complete log and log.new", opening(), nil},
		{"three commands", opening(), nil},
		{"a log that was not synced", opening(), nil},
		{"a torn log", opening(), []dop{kept, sync, moved, sync}},
		{"a torn log and log.new", opening(), []dop{remove("log.new"), kept, sync, moved, sync}},
		{"a torn log, log.new appended", opening(), []dop{remove("log.new"), kept, sync, moved, sync}},
		{"a torn log, log.new removed", opening(), []dop{kept, sync, moved, sync}},
		{"200 commands that are torn", opening(), []dop{extend("log.new", logOf(manyCmds(200)...)), sync, moved, sync}},
		{"a torn log", crashing(nil, 0), []dop{kept, sync, moved, sync}},
		{"a torn log and log.new", crashing(nil, 0), []dop{remove("log.new"), kept, sync, moved, sync}},
		{"a synced log", crashing(nil, 0), nil},
	} {
		d := disks[r.name]
		if r.a.Kind == impl.AcCrash {
			d, _ = crashModel(d, nil, 0)
		}
		for n := range len(r.steps) + 3 {
			next, code := acts(t, disks[r.name], powered(r.a, int64(n)))
			if want := int64(impl.StPower); (code == want) != (n < len(r.steps)) || code != want && code != impl.StOk {
				t.Errorf("%s: %s has the code %d", r.name, showAct(powered(r.a, int64(n))), code)
			}
			if !sameDisk(next, d) {
				t.Errorf("%s: %s makes %s instead of %s", r.name, showAct(powered(r.a, int64(n))), showDisk(next), showDisk(d))
			}
			if n < len(r.steps) && r.steps[n] == sync {
				d = synced(d.Live)
			} else if n < len(r.steps) {
				d, _ = doModel(d, r.steps[n])
			}
		}
		for _, power := range []int64{-1, -2, math.MinInt64, math.MaxInt64} {
			if next := actsWith(t, disks[r.name], powered(r.a, power), impl.StOk); !sameDisk(next, d) {
				t.Errorf("%s: %s makes %s instead of %s", r.name, showAct(powered(r.a, power)), showDisk(next), showDisk(d))
			}
		}
	}
}

// Of the codes that apply at once, the first one is returned.
func TestActionCodes(t *testing.T) {
	disks := journals(t)
	good, bad := create("b", ""), put("b", 0, "")
	for _, r := range []struct {
		name string
		a    act
		want int64
	}{
		{"an empty disk", act{Power: -1}, impl.StForm},
		{"an empty disk", act{Kind: 5, Power: 0}, impl.StForm},
		{"three commands", act{Kind: -1, Power: 0}, impl.StForm},
		{"a torn log", act{Kind: 1<<32 + impl.AcOpen, Power: -1}, impl.StForm},
		{"a synced log", newLog(), impl.StForm},
		{"a torn log", newLog(), impl.StForm},
		{"200 operations, a log", newLog(), impl.StForm},
		{"60 files, a log", powered(newLog(), 0), impl.StForm},
		{"200 operations, no log", newLog(), impl.StFull},
		{"60 files, no log", newLog(), impl.StFull},
		{"60 files, no log", powered(newLog(), 1), impl.StFull},
		{"60 files, no log", powered(newLog(), 0), impl.StPower},
		{"an empty disk", adding(good, true), impl.StNone},
		{"an empty disk", adding(bad, true), impl.StNone},
		{"a removed log", powered(adding(bad, true), 0), impl.StNone},
		{"200 operations, no log", adding(good, true), impl.StNone},
		{"three commands", adding(bad, true), impl.StForm},
		{"three commands", powered(adding(cmd{}, true), 0), impl.StForm},
		{"a torn log", adding(bad, true), impl.StForm},
		{"201 commands", adding(bad, true), impl.StForm},
		{"200 commands", adding(bad, true), impl.StForm},
		{"200 operations, a log", adding(bad, true), impl.StForm},
		{"a torn log", adding(good, true), impl.StTorn},
		{"a torn log", powered(adding(good, true), 0), impl.StTorn},
		{"201 commands", adding(good, true), impl.StTorn},
		{"200 commands that are torn", adding(good, true), impl.StTorn},
		{"200 operations, a torn log", adding(good, true), impl.StTorn},
		{"200 commands", adding(good, true), impl.StFull},
		{"200 commands", powered(adding(good, true), 0), impl.StFull},
		{"200 operations, a log", adding(good, true), impl.StFull},
		{"200 operations, a log", powered(adding(good, true), 0), impl.StPower},
		{"no bytes for more, a log", adding(good, true), impl.StFull},
		{"few bytes for more, a log", adding(good, true), impl.StFull},
		{"an empty disk", opening(), impl.StNone},
		{"no log", powered(opening(), 0), impl.StNone},
		{"200 operations, no log", opening(), impl.StNone},
		{"200 operations, a log", powered(opening(), 0), impl.StOk},
		{"60 files, a log", opening(), impl.StOk},
		{"200 operations, a torn log", opening(), impl.StFull},
		{"60 files, a torn log", opening(), impl.StFull},
		{"60 files, a torn log", powered(opening(), 0), impl.StPower},
		{"no bytes for more, a torn log", opening(), impl.StFull},
	} {
		unchanged(t, disks[r.name], r.a, r.want)
	}
	// What was done before the step that is rejected is undone.
	d := disks["199 operations, a torn log"]
	d.Live, d.Safe = append(d.Live, file{Name: "log.new", Data: "x"}), append(d.Safe, file{Name: "log.new", Data: "x"})
	unchanged(t, d, opening(), impl.StFull)
	unchanged(t, d, powered(opening(), 2), impl.StFull)
	if next := actsWith(t, d, powered(opening(), 1), impl.StPower); len(next.Ops) != 200 {
		t.Errorf("%d operations", len(next.Ops))
	}
	// A frame of 20 bytes where there is room for 20.
	d = disks["few bytes for more, a log"]
	d = withLog(synced(filesOf("a", d.Live[0].Data[1:])), logOf(exampleCmds()...))
	views(t, actsWith(t, d, adding(good, false), impl.StOk), append(exampleCmds(), good)...)
	// The file log.new takes up bytes until it is removed.
	d = actsWith(t, disks["bytes of log.new, a torn log"], opening(), impl.StOk)
	views(t, d, exampleCmds()[0])
}

func TestManyCommands(t *testing.T) {
	list := manyCmds(201)
	d := actsWith(t, disk{}, newLog(), impl.StOk)
	unsynced := actsWith(t, disk{}, powered(newLog(), 1), impl.StPower)
	for i, c := range list[:200] {
		a := adding(c, false)
		next, code := impl.StoreDo(d, a)
		if code != impl.StOk || len(next.Ops) != i+1 {
			t.Fatalf("the command %d has the code %d", i, code)
		}
		d = next
		if i < 199 {
			unsynced, _ = impl.StoreDo(unsynced, a)
		}
	}
	views(t, d, list[:200]...)
	unchanged(t, d, adding(list[200], true), impl.StFull)
	unchanged(t, d, opening(), impl.StOk)
	// The operation that creates the log is one of 200.
	views(t, unsynced, list[:199]...)
	unchanged(t, unsynced, adding(list[199], true), impl.StFull)
	views(t, actsWith(t, impl.Sync(unsynced), adding(list[199], true), impl.StOk), list[:200]...)
	d = actsWith(t, d, crashing([]int64{0, 1, 2, 4}, whole), impl.StOk)
	views(t, d, list[:3]...)
	unchanged(t, d, adding(cmd{}, true), impl.StForm)
}

// The longest commands: three fit on a disk.
func TestLongCommands(t *testing.T) {
	long := put(longName(40), impl.MaxVer, strings.Repeat("\xff", impl.MaxObj))
	d := actsWith(t, disk{}, newLog(), impl.StOk)
	for n := range 3 {
		d = actsWith(t, d, adding(long, n == 1), impl.StOk)
	}
	views(t, d, long, long, long)
	unchanged(t, d, adding(long, true), impl.StFull)
	d = actsWith(t, d, adding(create("a", ""), false), impl.StOk)
	views(t, d, long, long, long, create("a", ""))
	// Of a torn log that is long, there is no room for a copy.
	after := actsWith(t, d, crashing([]int64{0, 1}, 5), impl.StFull)
	if want, _ := crashModel(d, []int64{0, 1}, 5); !sameDisk(after, want) {
		t.Errorf("%s instead of %s", showDisk(after), showDisk(want))
	}
	views(t, after, long, long, long)
	views(t, actsWith(t, d, crashing([]int64{0}, 5), impl.StFull), long, long)
	views(t, actsWith(t, d, crashing([]int64{0}, whole), impl.StOk), long, long, long)
	d = actsWith(t, synced(filesOf("log", "")), adding(long, true), impl.StOk)
	d = actsWith(t, d, adding(long, false), impl.StOk)
	views(t, actsWith(t, d, crashing([]int64{0}, 50000), impl.StOk), long)
}

// A loss of power, of which nothing can be made, or that leaves no log, or a
// torn one.
func TestCrashOfJournals(t *testing.T) {
	d := exampleJournal(t)
	list := exampleCmds()
	for _, keep := range [][]int64{{-1}, {3}, {1, 0}, {0, 0}, {0, 1, 2, 3}} {
		unchanged(t, d, crashing(keep, 9), impl.StForm)
		unchanged(t, d, powered(crashing(keep, 9), 0), impl.StForm)
	}
	unchanged(t, d, crashing(nil, -1), impl.StForm)
	unchanged(t, disk{}, crashing(nil, -1), impl.StForm)
	unchanged(t, disk{}, crashing([]int64{0}, 0), impl.StForm)
	unchanged(t, disk{}, crashing(nil, 0), impl.StNone)
	full := doesAll(t, withLog(synced(numberedFiles(59, "")), tornLog()), remove("f0000"), extend("g", ""))
	unchanged(t, full, crashing([]int64{1}, 0), impl.StForm)
	views(t, actsWith(t, full, crashing([]int64{0}, 0), impl.StOk), list[0])
	after := actsWith(t, full, crashing([]int64{0, 1}, 0), impl.StFull)
	if want, _ := crashModel(full, []int64{0, 1}, 0); !sameDisk(after, want) || len(after.Live) != 60 {
		t.Errorf("%s instead of %s", showDisk(after), showDisk(want))
	}
	// Without a log, or with one that is lost, the disk is the one after Crash.
	lost := doesAll(t, synced(filesOf("a", "1")), extend("log", logOf(list...)), extend("b", "xyz"))
	for _, r := range []struct {
		keep []int64
		torn int64
		left []file
	}{{nil, 9, filesOf("a", "1")}, {[]int64{1}, 2, filesOf("a", "1", "b", "xy")}} {
		for _, power := range []int64{-1, 0, 1} {
			after := actsWith(t, lost, powered(crashing(r.keep, r.torn), power), impl.StNone)
			if !sameDisk(after, synced(r.left)) {
				t.Errorf("%s instead of %q", showDisk(after), fmt.Sprint(r.left))
			}
			viewsNone(t, after, impl.StNone)
		}
	}
	views(t, actsWith(t, lost, crashing([]int64{0}, 0), impl.StOk))
	// A log that was removed is back if the removal is not kept.
	removed := doesAll(t, synced(filesOf("log", logOf(list...))), remove("log"))
	unchanged(t, removed, opening(), impl.StNone)
	views(t, actsWith(t, removed, crashing(nil, 0), impl.StOk), list...)
	viewsNone(t, actsWith(t, removed, crashing([]int64{0}, 0), impl.StNone), impl.StNone)
	// Every part of what was added last.
	for n := range len(entry(2, list[2])) + 2 {
		after := actsWith(t, d, crashing([]int64{0, 1, 2}, int64(n)), impl.StOk)
		want := list[:2]
		if n >= len(entry(2, list[2])) {
			want = list
		}
		if views(t, after, want...); !sameDisk(after, synced(filesOf("log", logOf(want...)))) {
			t.Errorf("torn at %d: %s", n, showDisk(after))
		}
	}
}

// playsActs fails if StorePlay is not StoreDo of each action.
func playsActs(t *testing.T, d disk, list []act) (disk, []int64) {
	t.Helper()
	after, codes := impl.StorePlay(d, list)
	want := d
	var wanted []int64
	for _, a := range list {
		next, code := storeModel(want, a)
		want = next
		wanted = append(wanted, code)
	}
	if !slices.Equal(codes, wanted) || !sameDisk(after, want) || !impl.DiskOk(after) {
		t.Fatalf("StorePlay of %d actions on %s has the codes %v instead of %v and makes %s instead of %s", len(list), showDisk(d), codes, wanted, showDisk(after), showDisk(want))
	}
	return after, codes
}

// randomAct returns an action that suits the number of operations.
func randomAct(random *rand.Rand, ops int) act {
	keys := []string{"a", "b", "c"}
	key, ver := keys[random.Intn(3)], int64(random.Intn(4))
	a := act{Kind: impl.AcAdd, C: []cmd{create(key, "d"), put(key, ver, "e"), del(key, ver)}[random.Intn(3)], Sync: random.Intn(4) == 0, Power: -1}
	switch random.Intn(9) {
	case 0:
		a.Kind = impl.AcNew
	case 1, 2:
		a.Kind = impl.AcOpen
	case 3, 4:
		a.Kind = impl.AcCrash
		a.Torn = int64(random.Intn(25))
		for i := range ops {
			if random.Intn(3) > 0 {
				a.Keep = append(a.Keep, int64(i))
			}
		}
		if random.Intn(20) == 0 {
			a.Keep = append(a.Keep, int64(ops)-1)
		}
	case 5:
		a.Kind = int64(random.Intn(7)) - 1
	}
	if random.Intn(3) == 0 {
		a.Power = int64(random.Intn(7))
	}
	return a
}

func TestStorePlay(t *testing.T) {
	for name, d := range journals(t) {
		if after, codes := playsActs(t, d, nil); len(codes) != 0 || !sameDisk(after, d) {
			t.Errorf("%s: the codes of no actions are %v, with %s", name, codes, showDisk(after))
		}
		playsActs(t, d, allActs())
	}
	random := rand.New(rand.NewSource(25))
	count := map[int64]int{}
	for range 100 {
		d := disk{}
		var list []act
		for range 60 {
			a := randomAct(random, len(d.Ops))
			d, _ = acts(t, d, a)
			list = append(list, a)
		}
		after, codes := playsActs(t, disk{}, list)
		if !sameDisk(after, d) {
			t.Errorf("%s instead of %s", showDisk(after), showDisk(d))
		}
		for _, code := range codes {
			count[code]++
		}
	}
	for _, code := range []int64{impl.StOk, impl.StNone, impl.StForm, impl.StPower, impl.StTorn} {
		if count[code] < 10 {
			t.Errorf("the codes are %v", count)
		}
	}
}

func TestRecovered(t *testing.T) {
	list := []cmd{create("a", "x"), create("a", "y"), put("a", 1, "z"), put("b", 1, ""), del("a", 1), create("b", ""), del("b", 1), create("b", "w")}
	d := actsWith(t, disk{}, newLog(), impl.StOk)
	for n, c := range list {
		d = actsWith(t, d, adding(c, n%2 == 0), impl.StOk)
		s, codes, code := impl.Recovered(d)
		played, playedCodes := folded(list[:n+1])
		if code != impl.StOk || !slices.Equal(codes, playedCodes) || !sameStore(s, played) {
			t.Errorf("after %d commands: %d, %v with %s", n+1, code, codes, showStore(s))
		}
	}
	s, codes, _ := impl.Recovered(d)
	if want := []int64{impl.SoOk, impl.SoThere, impl.SoOk, impl.SoNone, impl.SoVer, impl.SoOk, impl.SoOk, impl.SoOk}; !slices.Equal(codes, want) {
		t.Errorf("the codes are %v instead of %v", codes, want)
	}
	if want := (store{Objs: []obj{{Key: "a", Ver: 2, Data: "z"}, {Key: "b", Ver: 2, Data: "w"}}}); !sameStore(s, want) {
		t.Errorf("%s is recovered instead of %s", showStore(s), showStore(want))
	}
}

// useJournal calls every function of chapter 12 that is given a disk.
func useJournal(d disk) {
	impl.StoreView(d)
	impl.Recovered(d)
	for _, a := range allActs() {
		impl.StoreDo(d, a)
	}
	impl.StorePlay(d, allActs())
	impl.StorePlay(d, nil)
}

// Promise 15: no argument is modified, nor what is behind it, and no two lists
// of the results and the arguments share memory.
func TestJournalsMemory(t *testing.T) {
	for name, d := range journals(t) {
		keepsDisk(t, d, useJournal)
		d = spacious(d)
		places := placesOfDisk(name, d)
		add := func(name string, d disk) { places = append(places, placesOfDisk(name, d)...) }
		for i, a := range allActs() {
			first, _ := impl.StoreDo(d, a)
			second, _ := impl.StoreDo(d, a)
			add(fmt.Sprint("first ", i), first)
			add(fmt.Sprint("second ", i), second)
		}
		for n := range 4 {
			after, codes := impl.StorePlay(d, allActs()[20:20+n])
			add("StorePlay", after)
			places = append(places, placeOf("codes", codes))
		}
		for range 2 {
			list, _ := impl.StoreView(d)
			s, codes, _ := impl.Recovered(d)
			places = append(places, placeOf("commands", list), placeOf("objects", s.Objs), placeOf("deleted objects", s.Gone), placeOf("codes", codes))
		}
		apart(t, places)
	}
	for name, d := range badDisks() {
		if name != "201 operations" {
			keepsDisk(t, d, useJournal)
		}
	}
	d := exampleJournal(t)
	for _, keep := range [][]int64{{0, 1}, {1}, {1, 0}, {0, 7}} {
		keeps(t, "StoreDo", keep, 7, func(l []int64) {
			impl.StoreDo(d, crashing(l, 1))
			impl.StorePlay(d, []act{crashing(l, 1), crashing(l, 0)})
		})
	}
	list, whole := behind([]act{opening(), crashing([]int64{0, 2}, 1), adding(create("b", ""), true)}, act{Kind: 77})
	before := showActs(whole)
	impl.StorePlay(d, list)
	if after := showActs(whole); after != before {
		t.Errorf("StorePlay modified its argument: %s became %s", before, after)
	}
	fresh(t, "TakeFrames", "mark", func() []string { l, _ := impl.TakeFrames(logOf(exampleCmds()...)); return l })
}

func showActs(l []act) string {
	text := ""
	for _, a := range l {
		text += showAct(a) + "; "
	}
	return text
}

// Promise 15: equal arguments yield equal results, also at the same time.
func TestJournalsAreRepeated(t *testing.T) {
	random := rand.New(rand.NewSource(26))
	var list []act
	d := disk{}
	for range 100 {
		a := randomAct(random, len(d.Ops))
		d, _ = impl.StoreDo(d, a)
		list = append(list, a)
	}
	played, codes := impl.StorePlay(disk{}, list)
	recovered, storeCodes, code := impl.Recovered(played)
	var running sync.WaitGroup
	for range 8 {
		running.Go(func() {
			for range 5 {
				if after, c := impl.StorePlay(disk{}, list); !sameDisk(after, played) || !slices.Equal(c, codes) {
					t.Errorf("%s, then %s", showDisk(played), showDisk(after))
				}
				if s, sc, c := impl.Recovered(played); !sameStore(s, recovered) || !slices.Equal(sc, storeCodes) || c != code {
					t.Errorf("%s, then %s", showStore(recovered), showStore(s))
				}
			}
		})
	}
	running.Wait()
}
