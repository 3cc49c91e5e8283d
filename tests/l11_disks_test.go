package tests

import (
	"fmt"
	"maps"
	"math"
	"math/rand"
	"slices"
	"strings"
	"sync"
	"testing"

	"loop.example/g00703/impl"
)

type (
	file = impl.File
	dop  = impl.DOp
	disk = impl.Disk
)

// whole is more than the length of any Data.
const whole = math.MaxInt64

func sameDisk(a, b disk) bool {
	return slices.Equal(a.Live, b.Live) && slices.Equal(a.Safe, b.Safe) && slices.Equal(a.Ops, b.Ops)
}

func emptyDisk(d disk) bool { return sameDisk(d, disk{}) }

func showDisk(d disk) string {
	return fmt.Sprintf("%d live, %d safe, %d ops: %.400q", len(d.Live), len(d.Safe), len(d.Ops), fmt.Sprint(d))
}

func extend(name, data string) dop { return dop{Kind: impl.DkAppend, Name: name, Data: data} }

func rename(name, to string) dop { return dop{Kind: impl.DkRename, Name: name, To: to} }

func remove(name string) dop { return dop{Kind: impl.DkRemove, Name: name} }

// filesOf returns the files of pairs of a name and data.
func filesOf(words ...string) []file {
	var l []file
	for pair := range slices.Chunk(words, 2) {
		l = append(l, file{Name: pair[0], Data: pair[1]})
	}
	return l
}

// numberedFiles returns n files, each with the same data.
func numberedFiles(n int, data string) []file {
	l := make([]file, n)
	for i := range l {
		l[i] = file{Name: fmt.Sprintf("f%04d", i), Data: data}
	}
	return l
}

// synced returns a disk with files that were synced.
func synced(l []file) disk { return disk{Live: slices.Clone(l), Safe: slices.Clone(l)} }

// folderModel has the data of each file by its name.
type folderModel map[string]string

func folderModelOf(l []file) folderModel {
	m := folderModel{}
	for _, f := range l {
		m[f.Name] = f.Data
	}
	return m
}

func (m folderModel) list() []file {
	var l []file
	for _, name := range slices.Sorted(maps.Keys(m)) {
		l = append(l, file{Name: name, Data: m[name]})
	}
	return l
}

func (m folderModel) fits() bool {
	size := 0
	for _, data := range m {
		size += len(data)
	}
	return len(m) <= 60 && size <= 200000
}

// perform returns false, and does nothing, if there is no such file.
func (m folderModel) perform(o dop) bool {
	data, found := m[o.Name]
	switch {
	case o.Kind == impl.DkAppend:
		m[o.Name] = data + o.Data
	case !found:
		return false
	default:
		delete(m, o.Name)
		if o.Kind == impl.DkRename {
			m[o.To] = data
		}
	}
	return true
}

func nameModel(name string) bool { return len(name) > 0 && len(name) < 101 }

func listModel(l []file) bool {
	for _, f := range l {
		if !nameModel(f.Name) {
			return false
		}
	}
	m := folderModelOf(l)
	return slices.Equal(m.list(), l) && m.fits()
}

func formModel(o dop) bool {
	bare := o
	bare.Name = ""
	switch o.Kind {
	case impl.DkAppend:
		bare.Data = ""
	case impl.DkRename:
		bare.To = ""
		if !nameModel(o.To) {
			return false
		}
	case impl.DkRemove:
	default:
		return false
	}
	return nameModel(o.Name) && bare == dop{Kind: o.Kind}
}

func diskModel(d disk) bool {
	m := folderModelOf(d.Safe)
	for _, o := range d.Ops {
		if !formModel(o) || !m.perform(o) || !m.fits() {
			return false
		}
	}
	return listModel(d.Live) && listModel(d.Safe) && len(d.Ops) <= 200 && slices.Equal(m.list(), d.Live)
}

// doModel is the document's Do on a valid disk.
func doModel(d disk, o dop) (disk, int64) {
	if !formModel(o) {
		return d, impl.DkForm
	}
	m := folderModelOf(d.Live)
	if !m.perform(o) {
		return d, impl.DkNone
	}
	if len(d.Ops) == 200 || !m.fits() {
		return d, impl.DkFull
	}
	return disk{Live: m.list(), Safe: d.Safe, Ops: slices.Concat(d.Ops, []dop{o})}, impl.DkOk
}

// crashModel is the document's Crash of a valid disk.
func crashModel(d disk, keep []int64, torn int64) (disk, bool) {
	m := folderModelOf(d.Safe)
	for i, at := range keep {
		if at < 0 || at >= int64(len(d.Ops)) || slices.Max(keep[:i+1]) != at || slices.Contains(keep[:i], at) {
			return disk{}, false
		}
		o := d.Ops[at]
		if i+1 == len(keep) && torn >= 0 && torn < int64(len(o.Data)) {
			o.Data = o.Data[:torn]
		}
		m.perform(o)
	}
	if torn < 0 || !m.fits() {
		return disk{}, false
	}
	return synced(m.list()), true
}

// doesAll performs operations, each of which is accepted.
func doesAll(t *testing.T, d disk, ops ...dop) disk {
	t.Helper()
	for _, o := range ops {
		next, code := impl.Do(d, o)
		if want, _ := doModel(d, o); code != impl.DkOk || !sameDisk(next, want) || !impl.DiskOk(next) {
			t.Fatalf("%.200q has the code %d on %s and makes %s", fmt.Sprint(o), code, showDisk(d), showDisk(next))
		}
		d = next
	}
	return d
}

// rejects fails if an operation has another code than the given one, or does
// not return what is returned with this code.
func rejects(t *testing.T, name string, d disk, o dop, want int64) {
	t.Helper()
	left := d
	if want == impl.DkDisk {
		left = disk{}
	}
	if next, code := impl.Do(d, o); code != want || !sameDisk(next, left) {
		t.Errorf("%s: %.200q has the code %d instead of %d on %s and makes %s", name, fmt.Sprint(o), code, want, showDisk(d), showDisk(next))
	}
}

// diskIs fails if a disk is taken to be valid, or not to be.
func diskIs(t *testing.T, name string, d disk, want bool) {
	t.Helper()
	if impl.DiskOk(d) != want || diskModel(d) != want {
		t.Errorf("%s: DiskOk is %v for %s", name, impl.DiskOk(d), showDisk(d))
	}
}

// crashes fails if Crash is not what the model says.
func crashes(t *testing.T, d disk, keep []int64, torn int64) (disk, bool) {
	t.Helper()
	after, ok := impl.Crash(d, keep, torn)
	if want, good := crashModel(d, keep, torn); ok != good || !sameDisk(after, want) || ok && !impl.DiskOk(after) {
		t.Errorf("Crash of %s with %v, %d is %v: %s instead of %s", showDisk(d), keep, torn, ok, showDisk(after), showDisk(want))
	}
	return after, ok
}

// leaves fails if Crash does not leave these files.
func leaves(t *testing.T, d disk, keep []int64, torn int64, words ...string) {
	t.Helper()
	after, ok := crashes(t, d, keep, torn)
	if !ok || !sameDisk(after, synced(filesOf(words...))) {
		t.Errorf("Crash of %s with %v, %d is %v: %s instead of %.200q", showDisk(d), keep, torn, ok, showDisk(after), words)
	}
}

// leavesNothing fails if Crash does not return false.
func leavesNothing(t *testing.T, d disk, keep []int64, torn int64) {
	t.Helper()
	if after, ok := impl.Crash(d, keep, torn); ok || !emptyDisk(after) {
		t.Errorf("Crash of %s with %v, %d is %v: %s", showDisk(d), keep, torn, ok, showDisk(after))
	}
}

// reads fails if a file does not have this data.
func reads(t *testing.T, d disk, name, want string) {
	t.Helper()
	if data, ok := impl.ReadFile(d, name); !ok || data != want {
		t.Errorf("%.120q is read as %.100q, %v on %s", name, data, ok, showDisk(d))
	}
}

// readsNone fails if there is such a file.
func readsNone(t *testing.T, d disk, name string) {
	t.Helper()
	if data, ok := impl.ReadFile(d, name); ok || data != "" {
		t.Errorf("%.120q is read as %.100q, %v on %s", name, data, ok, showDisk(d))
	}
}

// exampleDisk is the disk of the examples of chapter 11.
func exampleDisk(t *testing.T) disk {
	t.Helper()
	return doesAll(t, impl.Sync(doesAll(t, disk{}, extend("log", "ab"))), extend("log", "cd"), extend("b", "x"))
}

func TestDiskConstants(t *testing.T) {
	if impl.MaxFiles != 60 || impl.MaxBytes != 200000 || impl.MaxOps != 200 {
		t.Error("a limit of chapter 11 has another value")
	}
	if impl.DkAppend != 1 || impl.DkRename != 2 || impl.DkRemove != 3 {
		t.Error("a kind of chapter 11 has another value")
	}
	if impl.DkOk != 0 || impl.DkDisk != 1 || impl.DkForm != 2 || impl.DkNone != 3 || impl.DkFull != 4 {
		t.Error("a code of chapter 11 has another value")
	}
}

func TestDiskExamples(t *testing.T) {
	d := exampleDisk(t)
	leaves(t, d, []int64{0}, 1, "log", "abc")
	reads(t, d, "log", "abcd")
	next, code := impl.Replace(impl.Sync(d), "log", "new")
	if code != impl.DkOk || len(next.Ops) != 2 || !impl.DiskOk(next) {
		t.Errorf("code %d, %s", code, showDisk(next))
	}
	reads(t, next, "log", "new")
	if want := filesOf("b", "x", "log", "new"); !slices.Equal(next.Live, want) {
		t.Errorf("%s instead of %q", showDisk(next), want)
	}
}

// Names of each length and of each byte, in files and in operations.
func TestFileNames(t *testing.T) {
	for n, want := range map[int]bool{0: false, 1: true, 2: true, 99: true, 100: true, 101: false, 102: false, 256: false, 257: false, 100000: false} {
		name := longName(n)
		title := fmt.Sprint("a name of ", n, " bytes")
		diskIs(t, title, synced(filesOf(name, "x")), want)
		diskIs(t, title, disk{Safe: filesOf(name, ""), Ops: []dop{remove(name)}}, want)
		diskIs(t, title, disk{Live: filesOf(name, ""), Ops: []dop{extend(name, "")}}, want)
		diskIs(t, title, disk{Live: filesOf(name, ""), Safe: filesOf("a", ""), Ops: []dop{rename("a", name)}}, want)
		d := synced(filesOf("a", "x"))
		if want {
			e := doesAll(t, d, extend(name, "y"))
			reads(t, e, name, "y")
			e = doesAll(t, e, rename(name, name), rename("a", name), rename(name, "b"), rename("b", name))
			reads(t, e, name, "x")
			readsNone(t, doesAll(t, e, remove(name)), name)
			continue
		}
		readsNone(t, d, name)
		for _, o := range []dop{extend(name, ""), extend(name, "x"), rename(name, "b"), rename("a", name), rename("b", name), rename(name, name), remove(name)} {
			rejects(t, title, d, o, impl.DkForm)
		}
	}
	for b := range 256 {
		name := string([]byte{byte(b)})
		d := doesAll(t, synced(filesOf("xx", "x", "yy", "y")), extend(name, "z"), rename(name, "zz"), rename("xx", name))
		reads(t, d, name, "x")
	}
}

// The order of the names is that of their bytes.
func TestFileOrder(t *testing.T) {
	names := []string{"\x00", "\x00\x00", " ", "B", "a", "a\x00", "aa", "ab", "b", "b.new", "ba", "\x7f", "\x80", "\xff", "\xff\xff"}
	random := rand.New(rand.NewSource(20))
	for range 50 {
		d := disk{}
		for _, at := range random.Perm(len(names)) {
			d = doesAll(t, d, extend(names[at], names[at]))
		}
		for i, f := range d.Live {
			if f.Name != names[i] || f.Data != names[i] {
				t.Fatalf("the file %d is %q", i, f)
			}
		}
	}
	for i, a := range names {
		for j, b := range names {
			diskIs(t, "two names", synced(filesOf(a, "", b, "")), i < j)
			diskIs(t, "two names", disk{Live: filesOf(a, "", b, ""), Ops: []dop{extend(b, ""), extend(a, "")}}, i < j)
			diskIs(t, "two names", disk{Safe: filesOf(a, "", b, ""), Ops: []dop{remove(b), remove(a)}}, i < j)
		}
	}
}

func TestFileLimit(t *testing.T) {
	for n, want := range map[int]bool{0: true, 1: true, 59: true, 60: true, 61: false, 62: false, 1000: false} {
		l := numberedFiles(n, "")
		diskIs(t, fmt.Sprint(n, " files"), synced(l), want)
	}
	l := numberedFiles(62, "x")
	diskIs(t, "61 files that are removed", disk{Safe: l[:61], Ops: func() (ops []dop) {
		for _, f := range l[:61] {
			ops = append(ops, remove(f.Name))
		}
		return ops
	}()}, false)
	d := doesAll(t, synced(l[:59]), extend(l[59].Name, "x"))
	diskIs(t, "60 files", d, true)
	for _, o := range []dop{extend(l[60].Name, ""), extend(l[60].Name, "x"), extend("a", ""), extend("z", "")} {
		rejects(t, "60 files", d, o, impl.DkFull)
		diskIs(t, "61 files", disk{Live: l[:61], Safe: l[:60], Ops: []dop{extend(l[60].Name, "x")}}, false)
	}
	doesAll(t, d, extend(l[59].Name, "x"), rename(l[59].Name, "z"), rename("z", l[3].Name), extend("z", ""), remove(l[0].Name), extend("y", "x"))
}

func TestByteLimit(t *testing.T) {
	long := strings.Repeat("x", 200001)
	for n, want := range map[int]bool{0: true, 1: true, 199999: true, 200000: true, 200001: false} {
		diskIs(t, fmt.Sprint(n, " bytes"), synced(filesOf("a", long[:n])), want)
		diskIs(t, fmt.Sprint(n, " bytes that are removed"), disk{Safe: filesOf("a", long[:n]), Ops: []dop{remove("a")}}, want)
		diskIs(t, fmt.Sprint(n, " bytes that are appended"), disk{Live: filesOf("a", long[:n]), Ops: []dop{extend("a", long[:n])}}, want)
		for _, at := range []int{0, 1, 100000, 199998} {
			if at < n {
				diskIs(t, fmt.Sprint(n, " bytes of two files"), synced(filesOf("a", long[:at], "b", long[at:n])), want)
			}
		}
		if want {
			doesAll(t, disk{}, extend("a", long[:n]))
		} else {
			rejects(t, fmt.Sprint(n, " bytes"), disk{}, extend("a", long[:n]), impl.DkFull)
		}
	}
	diskIs(t, "60 files", synced(numberedFiles(60, long[:3333])), true)
	diskIs(t, "60 files", synced(numberedFiles(60, long[:3334])), false)
	full := doesAll(t, synced(filesOf("a", long[:150000], "b", "")), extend("b", long[:49999]), extend("c", "y"))
	doesAll(t, full, extend("a", ""), extend("b", ""), extend("d", ""), rename("b", "e"), rename("e", "e"), rename("a", "c"), extend("f", "z"))
	doesAll(t, full, remove("c"), extend("c", "y"))
	for _, name := range []string{"a", "b", "c", "d"} {
		rejects(t, "200000 bytes", full, extend(name, "y"), impl.DkFull)
	}
	// A file that is renamed takes up as many bytes, but one that it replaces
	// none.
	for _, d := range []disk{doesAll(t, full, rename("a", "z")), doesAll(t, full, rename("a", "a")), doesAll(t, full, rename("c", "d"))} {
		rejects(t, "200000 bytes after a rename", d, extend("b", "y"), impl.DkFull)
		moved := disk{Live: slices.Clone(d.Live), Safe: d.Safe, Ops: append(slices.Clone(d.Ops), extend("b", "y"))}
		moved.Live[slices.IndexFunc(moved.Live, func(f file) bool { return f.Name == "b" })].Data += "y"
		diskIs(t, "200001 bytes after a rename", moved, false)
	}
	rejects(t, "199999 bytes", doesAll(t, full, rename("a", "c")), extend("b", "yy"), impl.DkFull)
	rejects(t, "199999 bytes", doesAll(t, full, remove("c")), extend("a", "yy"), impl.DkFull)
	rejects(t, "50000 bytes", doesAll(t, full, remove("a")), extend("a", long[:150001]), impl.DkFull)
}

// manyOps returns a disk with n operations.
func manyOps(n int) disk {
	d := disk{Safe: filesOf("a", "1", "b", "2")}
	for i := range n {
		d.Ops = append(d.Ops, extend("b", string([]byte{byte(i)})))
	}
	m := folderModelOf(d.Safe)
	for _, o := range d.Ops {
		m.perform(o)
	}
	d.Live = m.list()
	return d
}

func TestOpLimit(t *testing.T) {
	for n, want := range map[int]bool{0: true, 1: true, 199: true, 200: true, 201: false, 202: false, 400: false} {
		diskIs(t, fmt.Sprint(n, " operations"), manyOps(n), want)
	}
	for _, o := range []dop{extend("b", "x"), extend("c", ""), rename("a", "b"), rename("a", "c"), rename("a", "a"), remove("a"), remove("b")} {
		diskIs(t, "200 operations", doesAll(t, manyOps(199), o), true)
		rejects(t, "200 operations", manyOps(200), o, impl.DkFull)
		doesAll(t, impl.Sync(manyOps(200)), o)
	}
}

// badDisks are not valid, each for one reason.
func badDisks() map[string]disk {
	long := strings.Repeat("x", 200001)
	ab := filesOf("a", "1", "b", "2")
	return map[string]disk{
		"no operation for what is live":   {Live: ab},
		"no operation for what is safe":   {Safe: ab},
		"other data":                      {Live: filesOf("a", "1", "b", "3"), Safe: ab},
		"data in another file":            {Live: filesOf("a", "2", "b", "1"), Safe: ab},
		"another name":                    {Live: filesOf("a", "1", "c", "2"), Safe: ab},
		"one file less":                   {Live: ab[:1], Safe: ab},
		"one file more":                   {Live: ab, Safe: ab[:1]},
		"an operation that is not live":   {Live: ab, Safe: ab, Ops: []dop{extend("a", "1")}},
		"data that are not appended":      {Live: filesOf("a", "12"), Safe: filesOf("a", "1"), Ops: []dop{extend("a", "1")}},
		"names out of order":              synced(filesOf("b", "", "a", "")),
		"live names out of order":         {Live: filesOf("b", "2", "a", "1"), Safe: ab},
		"safe names out of order":         {Live: ab, Safe: filesOf("b", "2", "a", "1")},
		"equal names":                     synced(filesOf("a", "1", "a", "1")),
		"equal safe names, made good":     {Safe: filesOf("a", "1", "a", "1"), Ops: []dop{remove("a")}},
		"a name of no bytes":              synced(filesOf("", "")),
		"a name of 101 bytes":             synced(filesOf(longName(101), "")),
		"61 files":                        synced(numberedFiles(61, "")),
		"61 files that a removal reduces": {Live: numberedFiles(60, ""), Safe: append(numberedFiles(60, ""), file{Name: "g"}), Ops: []dop{remove("g")}},
		"200001 bytes":                    synced(filesOf("a", long)),
		"201 operations":                  manyOps(201),
		"a kind 0":                        {Ops: []dop{{Name: "a"}}},
		"a kind 4":                        {Ops: []dop{{Kind: 4, Name: "a"}}},
		"a kind -1":                       {Live: ab, Safe: ab, Ops: []dop{{Kind: -1, Name: "a"}}},
		"an operation without a name":     {Live: ab, Safe: ab, Ops: []dop{extend("", "")}},
		"To of an operation that appends": {Live: ab, Safe: ab, Ops: []dop{{Kind: impl.DkAppend, Name: "a", To: "b"}}},
		"To of a removal":                 {Live: ab[1:], Safe: ab, Ops: []dop{{Kind: impl.DkRemove, Name: "a", To: "b"}}},
		"Data of a removal":               {Live: ab[1:], Safe: ab, Ops: []dop{{Kind: impl.DkRemove, Name: "a", Data: "1"}}},
		"Data of a rename":                {Live: ab, Safe: ab, Ops: []dop{{Kind: impl.DkRename, Name: "a", To: "a", Data: "1"}}},
		"a rename without To":             {Live: ab[1:], Safe: ab, Ops: []dop{rename("a", "")}},
		"a rename that finds no file":     {Live: ab, Safe: ab, Ops: []dop{rename("c", "d")}},
		"a removal that finds no file":    {Live: ab, Safe: ab, Ops: []dop{remove("c")}},
		"a removal of a removed file":     {Live: ab[1:], Safe: ab, Ops: []dop{remove("a"), remove("a")}},
		"a removal made good":             {Live: filesOf("c", ""), Ops: []dop{remove("c"), extend("c", "")}},
		"a rename made good":              {Live: filesOf("c", ""), Ops: []dop{rename("c", "d"), extend("c", "")}},
		"61 files made good by a removal": {Live: numberedFiles(60, ""), Safe: numberedFiles(60, ""), Ops: []dop{extend("g", ""), remove("g")}},
		"61 files made good by a rename":  {Live: numberedFiles(60, ""), Safe: numberedFiles(60, ""), Ops: []dop{extend("g", ""), rename("g", "f0000")}},
		"200001 bytes made good":          {Live: filesOf("b", ""), Safe: filesOf("a", "1", "b", ""), Ops: []dop{extend("a", long[:200000]), remove("a")}},
		"200001 bytes, then replaced":     {Live: filesOf("a", ""), Safe: filesOf("a", "1", "b", ""), Ops: []dop{extend("a", long[:200000]), rename("b", "a")}},
	}
}

// Every function rejects a disk that is not valid, whatever else it is given.
func TestDisksThatAreNotValid(t *testing.T) {
	for name, d := range badDisks() {
		diskIs(t, name, d, false)
		for _, o := range []dop{extend("a", "x"), rename("a", "b"), remove("a"), {}, extend("", "x"), rename("x", "y"), remove("z"), extend("y", strings.Repeat("x", 200001))} {
			rejects(t, name, d, o, impl.DkDisk)
		}
		if s := impl.Sync(d); !emptyDisk(s) {
			t.Errorf("%s: Sync returns %s", name, showDisk(s))
		}
		for _, keep := range [][]int64{nil, {0}, {1}, {-1}, {0, 0}} {
			for _, torn := range []int64{-1, 0, 1, whole} {
				leavesNothing(t, d, keep, torn)
			}
		}
		for _, f := range slices.Concat(filesOf("a", "", "z", "", "", ""), d.Live, d.Safe) {
			readsNone(t, d, f.Name)
			for _, data := range []string{"", "x", strings.Repeat("x", 200001)} {
				if next, code := impl.Replace(d, f.Name, data); code != impl.DkDisk || !emptyDisk(next) {
					t.Errorf("%s: Replace has the code %d and makes %s", name, code, showDisk(next))
				}
			}
		}
	}
}

// formIsNot are operations that have no valid form.
func formIsNot() []dop {
	return []dop{
		{}, {Kind: 0, Name: "a"}, {Kind: 4, Name: "a"}, {Kind: -1, Name: "a", Data: "x"}, {Kind: 4, Name: "a", To: "b"},
		{Kind: math.MaxInt64, Name: "a"}, {Kind: math.MinInt64, Name: "a"}, {Kind: impl.DkAppend + 1<<32, Name: "a"},
		extend("", "x"), extend(longName(101), "x"), rename("", "b"), rename("a", ""), rename(longName(101), "b"), rename("a", longName(101)), remove(""), remove(longName(101)),
		{Kind: impl.DkAppend, Name: "a", To: "b", Data: "x"}, {Kind: impl.DkAppend, Name: "a", To: "a"},
		{Kind: impl.DkRename, Name: "a", To: "b", Data: "x"}, {Kind: impl.DkRename, Name: "a", Data: "x"},
		{Kind: impl.DkRemove, Name: "a", To: "b"}, {Kind: impl.DkRemove, Name: "a", Data: "x"}, {Kind: impl.DkRemove, Name: "a", To: "a", Data: "x"},
	}
}

// Of the codes that apply at once, the first one is returned.
func TestDiskCodes(t *testing.T) {
	full := synced(append(numberedFiles(59, ""), file{Name: "long", Data: strings.Repeat("x", 200000)}))
	for name, d := range map[string]disk{"an empty disk": {}, "200 operations": manyOps(200), "no room": full} {
		diskIs(t, name, d, true)
		for _, o := range formIsNot() {
			rejects(t, name, d, o, impl.DkForm)
			// No such file, or too many bytes, as well.
			if o.Name == "a" {
				o.Name = "none"
			}
			rejects(t, name, d, o, impl.DkForm)
			o.Data += strings.Repeat("x", 200001)
			if !formModel(o) {
				rejects(t, name, d, o, impl.DkForm)
			}
		}
		for _, o := range []dop{rename("none", "b"), rename("none", "none"), rename("none", "a"), rename("none", longName(100)), remove("none"), remove(longName(100))} {
			rejects(t, name, d, o, impl.DkNone)
		}
	}
	for _, o := range []dop{extend("none", ""), extend("a", ""), rename("a", "none"), rename("a", "b"), remove("a")} {
		rejects(t, "200 operations", manyOps(200), o, impl.DkFull)
	}
	rejects(t, "no room", full, extend("none", ""), impl.DkFull)
	rejects(t, "no room", full, extend("long", "x"), impl.DkFull)
	doesAll(t, full, extend("long", ""), rename("long", "none"), remove("none"), extend("long", strings.Repeat("x", 200000)))
}

func TestOperations(t *testing.T) {
	d := synced(filesOf("a", "1", "b", "2", "c", "3"))
	for _, r := range []struct {
		o    dop
		live []file
	}{
		{extend("a", "x"), filesOf("a", "1x", "b", "2", "c", "3")},
		{extend("a", ""), filesOf("a", "1", "b", "2", "c", "3")},
		{extend("ab", ""), filesOf("a", "1", "ab", "", "b", "2", "c", "3")},
		{extend("A", "\x00\n"), filesOf("A", "\x00\n", "a", "1", "b", "2", "c", "3")},
		{extend("d", "x"), filesOf("a", "1", "b", "2", "c", "3", "d", "x")},
		{rename("a", "a"), filesOf("a", "1", "b", "2", "c", "3")},
		{rename("a", "b"), filesOf("b", "1", "c", "3")},
		{rename("a", "c"), filesOf("b", "2", "c", "1")},
		{rename("c", "a"), filesOf("a", "3", "b", "2")},
		{rename("a", "d"), filesOf("b", "2", "c", "3", "d", "1")},
		{rename("c", "A"), filesOf("A", "3", "a", "1", "b", "2")},
		{remove("a"), filesOf("b", "2", "c", "3")},
		{remove("b"), filesOf("a", "1", "c", "3")},
	} {
		next := doesAll(t, d, r.o)
		if want := (disk{Live: r.live, Safe: d.Safe, Ops: []dop{r.o}}); !sameDisk(next, want) {
			t.Errorf("%q makes %s instead of %s", fmt.Sprint(r.o), showDisk(next), showDisk(want))
		}
		if s := impl.Sync(next); !sameDisk(s, synced(r.live)) || !impl.DiskOk(s) {
			t.Errorf("after %q, Sync makes %s", fmt.Sprint(r.o), showDisk(s))
		}
	}
	if s := impl.Sync(disk{}); !emptyDisk(s) {
		t.Errorf("Sync of an empty disk is %s", showDisk(s))
	}
	rejects(t, "a renamed file", doesAll(t, d, rename("a", "b")), remove("a"), impl.DkNone)
	rejects(t, "a removed file", doesAll(t, d, remove("a")), rename("a", "b"), impl.DkNone)
	rejects(t, "a removed file", doesAll(t, d, remove("a")), remove("a"), impl.DkNone)
}

func TestReadFile(t *testing.T) {
	d := doesAll(t, synced(filesOf("a", "1", "b", "2", "empty", "")), extend("a", "x"), remove("b"), extend("c", ""))
	reads(t, d, "a", "1x")
	reads(t, d, "c", "")
	reads(t, d, "empty", "")
	for _, name := range []string{"", "b", "d", "A", "aa", "a\x00", longName(100), longName(101)} {
		readsNone(t, d, name)
	}
	readsNone(t, disk{}, "a")
	readsNone(t, disk{}, "")
}

func TestCrashKeepsNamedOperations(t *testing.T) {
	d := exampleDisk(t)
	leaves(t, d, nil, 0, "log", "ab")
	leaves(t, d, []int64{}, whole, "log", "ab")
	leaves(t, d, []int64{0}, 0, "log", "ab")
	leaves(t, d, []int64{0}, 2, "log", "abcd")
	leaves(t, d, []int64{0}, 3, "log", "abcd")
	leaves(t, d, []int64{0}, whole, "log", "abcd")
	leaves(t, d, []int64{1}, 0, "b", "", "log", "ab")
	leaves(t, d, []int64{1}, 1, "b", "x", "log", "ab")
	leaves(t, d, []int64{0, 1}, 0, "b", "", "log", "abcd")
	leaves(t, d, []int64{0, 1}, 1, "b", "x", "log", "abcd")
	leaves(t, impl.Sync(d), nil, 1, "b", "x", "log", "abcd")
	leaves(t, disk{}, nil, 0)
	leaves(t, disk{}, nil, whole)
	for _, torn := range []int64{0, 1, whole} {
		for _, keep := range [][]int64{{-1}, {2}, {0, 2}, {0, 1, 2}, {1, 0}, {0, 0}, {1, 1}, {0, 1, 1}, {0, 0, 1}, {-1, 0}, {math.MaxInt64}, {math.MinInt64}, {1 << 32}, {0, 1 << 32}, {0, math.MaxInt64}, make([]int64, 300)} {
			leavesNothing(t, d, keep, torn)
		}
		leavesNothing(t, impl.Sync(d), []int64{0}, torn)
	}
	for _, torn := range []int64{-1, -2, math.MinInt64} {
		for _, keep := range [][]int64{nil, {0}, {1}, {0, 1}, {2}} {
			leavesNothing(t, d, keep, torn)
		}
	}
}

// What the last operation that is kept appends may be torn. No other data are,
// not even if the last one renames or removes the file.
func TestCrashTears(t *testing.T) {
	d := doesAll(t, synced(filesOf("a", "1")), extend("b", "wxyz"), extend("c", "uv"), rename("b", "a"), extend("a", "st"), remove("c"))
	leaves(t, d, []int64{0}, 3, "a", "1", "b", "wxy")
	leaves(t, d, []int64{0, 1}, 1, "a", "1", "b", "wxyz", "c", "u")
	leaves(t, d, []int64{0, 2}, 1, "a", "wxyz")
	leaves(t, d, []int64{0, 2}, 0, "a", "wxyz")
	leaves(t, d, []int64{0, 1, 2}, 0, "a", "wxyz", "c", "uv")
	leaves(t, d, []int64{0, 2, 3}, 1, "a", "wxyzs")
	leaves(t, d, []int64{0, 2, 3}, 0, "a", "wxyz")
	leaves(t, d, []int64{0, 1, 2, 3, 4}, 0, "a", "wxyzst")
	leaves(t, d, []int64{1, 4}, 0, "a", "1")
	leaves(t, d, []int64{0, 3}, 1, "a", "1s", "b", "wxyz")
}

// A rename or a removal that is kept need not find its file, and does nothing
// then.
func TestCrashWithoutFiles(t *testing.T) {
	d := doesAll(t, synced(filesOf("a", "1")), extend("b", "x"), rename("b", "a"), extend("c", "y"), remove("c"), rename("a", "d"))
	leaves(t, d, []int64{1}, 9, "a", "1")
	leaves(t, d, []int64{3}, 9, "a", "1")
	leaves(t, d, []int64{1, 3}, 9, "a", "1")
	leaves(t, d, []int64{0, 1, 3}, 0, "a", "x")
	leaves(t, d, []int64{2, 3}, 0, "a", "1")
	leaves(t, d, []int64{1, 4}, 9, "d", "1")
	leaves(t, d, []int64{0, 4}, 9, "b", "x", "d", "1")
	leaves(t, d, []int64{0, 1, 4}, 9, "d", "x")
	e := doesAll(t, disk{}, extend("a", "1"), remove("a"), extend("a", "2"), rename("a", "a"), rename("a", "b"))
	leaves(t, e, []int64{0, 2}, 9, "a", "12")
	leaves(t, e, []int64{1, 3}, 9)
	leaves(t, e, []int64{0, 3}, 0, "a", "1")
	leaves(t, e, []int64{0, 2, 4}, 0, "b", "12")
}

// What a loss of power leaves must be a valid list of files, but only in the
// end.
func TestCrashLimits(t *testing.T) {
	d := doesAll(t, synced(numberedFiles(60, "")), remove("f0000"), extend("g", "x"), remove("f0001"))
	leavesNothing(t, d, []int64{1}, whole)
	leavesNothing(t, d, []int64{1}, 0)
	for _, keep := range [][]int64{{0}, {2}, {0, 1}, {0, 2}, {1, 2}, {0, 1, 2}} {
		if _, ok := crashes(t, d, keep, whole); !ok {
			t.Errorf("%v: false", keep)
		}
	}
	long := strings.Repeat("x", 200000)
	d = doesAll(t, synced(filesOf("a", long[:150000])), remove("a"), extend("a", long[:100000]), extend("b", long[:100000]), rename("b", "a"))
	diskIs(t, "200000 bytes", d, true)
	leavesNothing(t, d, []int64{1}, whole)
	leavesNothing(t, d, []int64{1}, 50001)
	leavesNothing(t, d, []int64{2}, 100000)
	leavesNothing(t, d, []int64{1, 2}, 0)
	e := doesAll(t, synced(filesOf("a", long[:120000])), rename("a", "b"), remove("b"), extend("c", long[:80001]))
	leavesNothing(t, e, []int64{0, 2}, whole)
	leavesNothing(t, e, []int64{2}, whole)
	leaves(t, e, []int64{0, 2}, 80000, "b", long[:120000], "c", long[:80000])
	for _, r := range []struct {
		keep []int64
		torn int64
		size int
	}{{[]int64{1}, 50000, 200000}, {[]int64{2}, 50000, 200000}, {[]int64{0, 1}, whole, 100000}, {[]int64{1, 2, 3}, 0, 100000}, {[]int64{2, 3}, 0, 100000}, {[]int64{0, 1, 2}, whole, 200000}, {[]int64{0, 1, 2, 3}, 0, 100000}} {
		after, ok := crashes(t, d, r.keep, r.torn)
		size := 0
		for _, f := range after.Live {
			size += len(f.Data)
		}
		if !ok || size != r.size {
			t.Errorf("%v, %d: %v with %d bytes instead of %d", r.keep, r.torn, ok, size, r.size)
		}
	}
}

// Many times the bytes that a disk may have are kept before they are removed.
func TestCrashOfManyBytes(t *testing.T) {
	long := strings.Repeat("x", 200000)
	d := disk{Live: filesOf("z", "")}
	var keep []int64
	for i := range 99 {
		d.Ops = append(d.Ops, extend("a", long), remove("a"))
		keep = append(keep, int64(2*i))
	}
	d.Ops = append(d.Ops, extend("z", ""))
	diskIs(t, "many bytes", d, true)
	keep = append(keep, 197, 198)
	leaves(t, d, keep, 0, "z", "")
	leavesNothing(t, d, append(keep[:99:99], 198), 0)
}

// replaces fails if Replace is not what its operations do, one by one.
func replaces(t *testing.T, d disk, name, data string) (disk, int64) {
	t.Helper()
	ops := []dop{extend(name+".new", data), rename(name+".new", name)}
	if slices.ContainsFunc(d.Live, func(f file) bool { return f.Name == name+".new" }) {
		ops = append([]dop{remove(name + ".new")}, ops...)
	}
	want, first := d, int64(impl.DkOk)
	for _, o := range ops {
		next, code := doModel(want, o)
		if code != impl.DkOk {
			want, first = d, code
			break
		}
		want = next
	}
	next, code := impl.Replace(d, name, data)
	if code != first || !sameDisk(next, want) || !impl.DiskOk(next) {
		t.Errorf("Replace of %.120q by %.50q on %s has the code %d instead of %d and makes %s", name, data, showDisk(d), code, first, showDisk(next))
	}
	return next, code
}

// replacesWith fails if Replace has another code than the given one.
func replacesWith(t *testing.T, d disk, name, data string, want int64) disk {
	t.Helper()
	next, code := replaces(t, d, name, data)
	if code != want {
		t.Errorf("Replace of %.120q on %s has the code %d instead of %d", name, showDisk(d), code, want)
	}
	if code == impl.DkOk {
		reads(t, next, name, data)
		readsNone(t, next, name+".new")
	} else if !sameDisk(next, d) {
		t.Errorf("a rejected Replace of %.120q makes %s of %s", name, showDisk(next), showDisk(d))
	}
	return next
}

func TestReplace(t *testing.T) {
	for _, l := range [][]file{nil, filesOf("a", "1"), filesOf("a", "1", "a.new", "2"), filesOf("a.new", "2"), filesOf("a.new", "2", "a.new.new", "3")} {
		for _, data := range []string{"", "x", "1", "12"} {
			next := replacesWith(t, synced(l), "a", data, impl.DkOk)
			replacesWith(t, next, "a", data+"y", impl.DkOk)
			replacesWith(t, next, "a.new", data, impl.DkOk)
		}
	}
	d := replacesWith(t, synced(filesOf("a", "1", "a.new", "2")), "a", "x", impl.DkOk)
	if want := []dop{remove("a.new"), extend("a.new", "x"), rename("a.new", "a")}; !slices.Equal(d.Ops, want) {
		t.Errorf("the operations are %q instead of %q", fmt.Sprint(d.Ops), fmt.Sprint(want))
	}
	d = replacesWith(t, disk{}, "a", "", impl.DkOk)
	if want := []dop{extend("a.new", ""), rename("a.new", "a")}; !slices.Equal(d.Ops, want) {
		t.Errorf("the operations are %q instead of %q", fmt.Sprint(d.Ops), fmt.Sprint(want))
	}
}

func TestReplaceNames(t *testing.T) {
	for n, want := range map[int]int64{0: impl.DkForm, 1: impl.DkOk, 95: impl.DkOk, 96: impl.DkOk, 97: impl.DkForm, 100: impl.DkForm, 101: impl.DkForm, 5000: impl.DkForm} {
		name := longName(n)
		replacesWith(t, disk{}, name, "x", want)
		replacesWith(t, synced(filesOf("a", "1")), name, "", want)
		if n > 0 && n <= 100 {
			replacesWith(t, synced(filesOf(name, "1")), name, "x", want)
		}
		if n <= 96 {
			replacesWith(t, synced(filesOf(name+".new", "1")), name, "x", want)
		}
	}
	// Without a name, it is the rename that has no valid form.
	replacesWith(t, manyOps(199), "", "x", impl.DkForm)
	replacesWith(t, manyOps(200), "", "x", impl.DkFull)
	replacesWith(t, synced(numberedFiles(60, "")), "", "x", impl.DkFull)
	replacesWith(t, manyOps(200), longName(97), "x", impl.DkForm)
}

func TestReplaceLimits(t *testing.T) {
	for n, want := range map[int]int64{197: impl.DkOk, 198: impl.DkOk, 199: impl.DkFull, 200: impl.DkFull} {
		replacesWith(t, manyOps(n), "a", "x", want)
		replacesWith(t, manyOps(n), "c", "x", want)
	}
	for n, want := range map[int]int64{196: impl.DkOk, 197: impl.DkOk, 198: impl.DkFull, 199: impl.DkFull, 200: impl.DkFull} {
		d := manyOps(n)
		d.Live = append(d.Live, file{Name: "b.new", Data: "3"})
		d.Safe = append(d.Safe, file{Name: "b.new", Data: "3"})
		replacesWith(t, d, "b", "x", want)
	}
	l := numberedFiles(60, "x")
	replacesWith(t, synced(l[:59]), "f0003", "y", impl.DkOk)
	replacesWith(t, synced(l[:59]), "g", "y", impl.DkOk)
	replacesWith(t, synced(l), "f0003", "y", impl.DkFull)
	replacesWith(t, synced(l), "g", "y", impl.DkFull)
	l[59].Name = "f0003.new"
	slices.SortFunc(l, func(a, b file) int { return strings.Compare(a.Name, b.Name) })
	replacesWith(t, synced(l), "f0003", "y", impl.DkOk)
	// The old contents and the new ones must fit at once, but not with those of
	// the file that is removed first.
	long := strings.Repeat("x", 200001)
	d := synced(filesOf("a", long[:120000]))
	replacesWith(t, d, "a", long[:80000], impl.DkOk)
	replacesWith(t, d, "a", long[:80001], impl.DkFull)
	replacesWith(t, d, "b", long[:80001], impl.DkFull)
	d = synced(filesOf("a", long[:120000], "a.new", long[:80000]))
	replacesWith(t, d, "a", long[:80000], impl.DkOk)
	replacesWith(t, d, "a", long[:80001], impl.DkFull)
	replacesWith(t, d, "b", "", impl.DkOk)
	replacesWith(t, d, "b", "y", impl.DkFull)
	replacesWith(t, disk{}, "b", long[:200000], impl.DkOk)
	replacesWith(t, disk{}, "b", long, impl.DkFull)
}

// choices returns every increasing list of numbers below n.
func choices(n int) [][]int64 {
	all := [][]int64{nil}
	for at := range n {
		for _, l := range all[:len(all):len(all)] {
			all = append(all, append(slices.Clone(l), int64(at)))
		}
	}
	return all
}

// tears returns every length at which the data of the last operation of a
// choice can be torn, and one beyond it.
func tears(d disk, keep []int64) []int64 {
	lengths := []int64{whole}
	if len(keep) > 0 {
		for n := range len(d.Ops[keep[len(keep)-1]].Data) + 1 {
			lengths = append(lengths, int64(n))
		}
	}
	return lengths
}

// everyCrash calls check with what each choice of operations that are kept,
// torn at each length, leaves of a disk.
func everyCrash(t *testing.T, d disk, check func(after disk, keep []int64, torn int64)) {
	t.Helper()
	for _, keep := range choices(len(d.Ops)) {
		for _, torn := range tears(d, keep) {
			if after, ok := crashes(t, d, keep, torn); ok {
				check(after, keep, torn)
			}
		}
	}
}

// After a loss of power, a file that was replaced has the old or the new
// contents. The file that replaces it must not have existed: if only the
// rename is kept, it is what was in that one.
func TestReplaceAndCrash(t *testing.T) {
	for _, l := range [][]file{filesOf("a", "old"), filesOf("a", "old", "b", "1")} {
		next := replacesWith(t, synced(l), "a", "contents", impl.DkOk)
		seen := map[string]bool{}
		everyCrash(t, next, func(after disk, keep []int64, torn int64) {
			data, ok := impl.ReadFile(after, "a")
			if !ok || data != "old" && data != "contents" {
				t.Errorf("after Crash with %v, %d: %q, %v", keep, torn, data, ok)
			}
			seen[data] = true
		})
		if len(seen) != 2 {
			t.Errorf("the contents are %v", seen)
		}
	}
	d := replacesWith(t, synced(filesOf("a", "old", "a.new", "older")), "a", "new", impl.DkOk)
	leaves(t, d, []int64{2}, 0, "a", "older")
}

// randomOp returns an operation that need not be possible.
func randomOp(random *rand.Rand) dop {
	names := []string{"a", "b", "c", "log", "log.new"}
	name := func() string { return names[random.Intn(len(names))] }
	switch random.Intn(8) {
	case 0, 1:
		return rename(name(), name())
	case 2:
		return remove(name())
	case 3:
		return formIsNot()[random.Intn(len(formIsNot()))]
	}
	return extend(name(), strings.Repeat("xyz", 3)[:random.Intn(9)])
}

// Random histories against the model, with each loss of power if there are
// few operations. Promise 11: if all operations are kept, whole, Crash leaves
// the files that were read, and if none is kept, those that were synced.
func TestDiskHistories(t *testing.T) {
	random := rand.New(rand.NewSource(21))
	count := map[int64]int{}
	for range 120 {
		d := disk{}
		for range 30 {
			o := randomOp(random)
			want, code := doModel(d, o)
			next, c := impl.Do(d, o)
			if c != code || !sameDisk(next, want) {
				t.Fatalf("%q has the code %d instead of %d on %s and makes %s", fmt.Sprint(o), c, code, showDisk(d), showDisk(next))
			}
			diskIs(t, "a history", next, true)
			count[code]++
			d = next
			var all []int64
			for i := range d.Ops {
				all = append(all, int64(i))
			}
			leavesFiles(t, d, all, d.Live)
			leavesFiles(t, d, nil, d.Safe)
			if len(d.Ops) < 5 {
				everyCrash(t, d, func(after disk, keep []int64, torn int64) { diskIs(t, "after a loss of power", after, true) })
			} else {
				keep := choices(5)[random.Intn(32)]
				crashes(t, d, keep, int64(random.Intn(9)))
			}
			replaces(t, d, "log", "new")
			if random.Intn(6) == 0 {
				d = impl.Sync(d)
			}
		}
	}
	if count[impl.DkOk] == 0 || count[impl.DkForm] == 0 || count[impl.DkNone] == 0 {
		t.Errorf("the codes are %v", count)
	}
}

// leavesFiles fails if Crash with whole data does not leave these files.
func leavesFiles(t *testing.T, d disk, keep []int64, l []file) {
	t.Helper()
	if after, ok := impl.Crash(d, keep, whole); !ok || !sameDisk(after, synced(l)) {
		t.Fatalf("Crash of %s with %v is %v: %s", showDisk(d), keep, ok, showDisk(after))
	}
}

// Promise 11 at the limits.
func TestCrashOfFullDisks(t *testing.T) {
	long := strings.Repeat("x", 200000)
	for _, d := range []disk{
		{}, manyOps(1), manyOps(200),
		synced(numberedFiles(60, long[:3333])),
		doesAll(t, synced(filesOf("a", long)), remove("a"), extend("b", long), rename("b", "c")),
		doesAll(t, synced(numberedFiles(60, "")), remove("f0000"), extend("g", long), remove("g"), extend("h", long[:199999])),
		doesAll(t, synced(filesOf("a", long)), rename("a", "b"), rename("b", "a"), remove("a")),
	} {
		var all []int64
		for i := range d.Ops {
			all = append(all, int64(i))
		}
		leavesFiles(t, d, all, d.Live)
		leavesFiles(t, d, nil, d.Safe)
	}
}

// A disk that differs from a valid one in one place is judged as the model
// does.
func TestDisksNearValidOnes(t *testing.T) {
	random := rand.New(rand.NewSource(22))
	count := map[bool]int{}
	for range 3000 {
		d := synced(filesOf("a", "1", "b", "", "log", "23"))
		for range random.Intn(5) {
			d, _ = doModel(d, randomOp(random))
		}
		d = disk{Live: slices.Clone(d.Live), Safe: slices.Clone(d.Safe), Ops: slices.Clone(d.Ops)}
		lists := []*[]file{&d.Live, &d.Safe}
		switch l := lists[random.Intn(2)]; random.Intn(6) {
		case 0:
			*l = append(*l, file{Name: []string{"a", "log", "z", ""}[random.Intn(4)]})
		case 1:
			if len(*l) > 0 {
				(*l)[random.Intn(len(*l))].Data += []string{"", "x"}[random.Intn(2)]
			}
		case 2:
			if len(*l) > 1 {
				(*l)[0], (*l)[1] = (*l)[1], (*l)[0]
			}
		case 3:
			d.Ops = append(d.Ops, randomOp(random))
		case 4:
			if len(d.Ops) > 0 {
				d.Ops[random.Intn(len(d.Ops))] = randomOp(random)
			}
		case 5:
			if len(d.Ops) > 1 {
				d.Ops[0], d.Ops[1] = d.Ops[1], d.Ops[0]
			}
		}
		want := diskModel(d)
		diskIs(t, "a disk near a valid one", d, want)
		count[want]++
	}
	if count[true] < 100 || count[false] < 100 {
		t.Errorf("%v", count)
	}
}

// useDisk calls every function of chapter 11 that is given a disk.
func useDisk(d disk) {
	impl.DiskOk(d)
	impl.Sync(d)
	for _, o := range []dop{extend("a", "x"), extend("", ""), extend("zz", "x"), rename("a", "b"), rename("b", "a"), rename("a", "a"), rename("none", "a"), remove("a"), remove("none"), extend("a", strings.Repeat("x", 200001))} {
		impl.Do(d, o)
	}
	for _, name := range []string{"", "a", "b", "log", longName(97)} {
		impl.ReadFile(d, name)
		impl.Replace(d, name, "x")
		impl.Replace(d, name, strings.Repeat("x", 200001))
	}
	for _, keep := range [][]int64{nil, {0}, {0, 1}, {1}, {-1}, {0, 0}} {
		for _, torn := range []int64{-1, 0, 1, whole} {
			impl.Crash(d, keep, torn)
		}
	}
}

// keepsDisk fails if f modifies the lists of a disk or what is behind them.
func keepsDisk(t *testing.T, d disk, f func(d disk)) {
	t.Helper()
	spare := file{Name: "spare", Data: "s"}
	keeps(t, "a function of disks", d.Live, spare, func(l []file) { f(disk{Live: l, Safe: d.Safe, Ops: d.Ops}) })
	keeps(t, "a function of disks", d.Safe, spare, func(l []file) { f(disk{Live: d.Live, Safe: l, Ops: d.Ops}) })
	keeps(t, "a function of disks", d.Ops, remove("spare"), func(l []dop) { f(disk{Live: d.Live, Safe: d.Safe, Ops: l}) })
}

// placesOfDisk returns the memory of all lists of a disk.
func placesOfDisk(name string, d disk) []place {
	return []place{placeOf(name+" live", d.Live), placeOf(name+" safe", d.Safe), placeOf(name+" ops", d.Ops)}
}

// spacious returns an equal disk with spare capacity.
func spacious(d disk) disk {
	live, _ := behind(d.Live, file{Name: "spare"})
	safe, _ := behind(d.Safe, file{Name: "spare"})
	ops, _ := behind(d.Ops, remove("spare"))
	return disk{Live: live, Safe: safe, Ops: ops}
}

// Promise 15: no argument is modified, nor what is behind it, and no two lists
// of the results and the arguments share memory.
func TestDisksMemory(t *testing.T) {
	valid := []disk{{}, exampleDisk(t), impl.Sync(exampleDisk(t)), manyOps(3), manyOps(199), manyOps(200), synced(filesOf("a", "1", "a.new", "2", "b", "3"))}
	for _, d := range slices.Concat(valid, slices.Collect(maps.Values(badDisks()))) {
		keepsDisk(t, d, useDisk)
	}
	for _, d := range valid {
		d = spacious(d)
		places := placesOfDisk("the argument", d)
		add := func(name string, d disk) { places = append(places, placesOfDisk(name, d)...) }
		for twice := range 2 {
			for i, o := range []dop{extend("a", "x"), extend("new", ""), rename("a", "a"), rename("a", "c"), remove("a"), remove("none"), {}} {
				next, _ := impl.Do(d, o)
				add(fmt.Sprint("Do ", i, " ", twice), next)
			}
			for _, name := range []string{"a", "b", "", longName(99)} {
				next, _ := impl.Replace(d, name, "x")
				add(fmt.Sprint("Replace ", name, " ", twice), next)
			}
			for _, keep := range [][]int64{nil, {0}, {0, 1}} {
				next, _ := impl.Crash(d, keep, 1)
				add(fmt.Sprint("Crash ", keep, " ", twice), next)
			}
			add(fmt.Sprint("Sync ", twice), impl.Sync(d))
		}
		apart(t, places)
	}
	for _, keep := range [][]int64{{0, 1}, {1}, {1, 0}, {0, 7}} {
		keeps(t, "Crash", keep, 7, func(l []int64) { impl.Crash(exampleDisk(t), l, 1) })
	}
}

// Promise 15: equal arguments yield equal results, also at the same time.
func TestDisksAreRepeated(t *testing.T) {
	d := manyOps(150)
	done, _ := impl.Do(d, rename("b", "c"))
	replaced, _ := impl.Replace(d, "b", "x")
	crashed, _ := impl.Crash(d, []int64{3, 5, 149}, 1)
	safe := impl.Sync(d)
	var running sync.WaitGroup
	for range 8 {
		running.Go(func() {
			for range 20 {
				a, _ := impl.Do(d, rename("b", "c"))
				b, _ := impl.Replace(d, "b", "x")
				c, _ := impl.Crash(d, []int64{3, 5, 149}, 1)
				if !sameDisk(a, done) || !sameDisk(b, replaced) || !sameDisk(c, crashed) || !sameDisk(impl.Sync(d), safe) {
					t.Error("a result differs")
				}
			}
		})
	}
	running.Wait()
}
