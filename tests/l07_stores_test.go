package tests

import (
	"encoding/hex"
	"fmt"
	"maps"
	"math"
	"math/rand"
	"slices"
	"strings"
	"sync"
	"testing"

	"loop.example/g00703/impl"
)

type (
	obj   = impl.Obj
	gone  = impl.Gone
	store = impl.Store
	cmd   = impl.Cmd
)

// keyBytes are the bytes that a key may have.
const keyBytes = "abcdefghijklmnopqrstuvwxyz0123456789-/"

func longName(n int) string { return strings.Repeat("n", n) }

func sameStore(a, b store) bool {
	return slices.Equal(a.Objs, b.Objs) && slices.Equal(a.Gone, b.Gone)
}

func emptyStore(s store) bool { return sameStore(s, store{}) }

// showStore returns a store in a form that is not too long.
func showStore(s store) string {
	return fmt.Sprintf("%d objects, %d gone: %.400q", len(s.Objs), len(s.Gone), fmt.Sprint(s))
}

func create(key, data string) cmd { return cmd{Kind: impl.CmCreate, Key: key, Data: data} }

func put(key string, ver int64, data string) cmd {
	return cmd{Kind: impl.CmPut, Key: key, Ver: ver, Data: data}
}

func del(key string, ver int64) cmd { return cmd{Kind: impl.CmDel, Key: key, Ver: ver} }

// do calls the function of chapter 7 that a command names, with all that the
// function is given.
func do(s store, c cmd) (store, int64, int64) {
	switch c.Kind {
	case impl.CmCreate:
		return impl.Create(s, c.Key, c.Data)
	case impl.CmPut:
		return impl.Put(s, c.Key, c.Ver, c.Data)
	}
	next, code := impl.Del(s, c.Key, c.Ver)
	return next, 0, code
}

// does performs a command that is accepted.
func does(t *testing.T, s store, c cmd, ver int64) store {
	t.Helper()
	next, v, code := do(s, c)
	if code != impl.SoOk || v != ver || !impl.StoreOk(next) {
		t.Fatalf("%.200v: version %d, code %d, %s", c, v, code, showStore(next))
	}
	return next
}

// refuses fails if a command has another code than the given one.
func refuses(t *testing.T, name string, s store, c cmd, want int64) {
	t.Helper()
	next, ver, code := do(s, c)
	if code != want || ver != 0 || !emptyStore(next) {
		t.Errorf("%s: %.200v has the code %d instead of %d, version %d, %s", name, c, code, want, ver, showStore(next))
	}
}

// all returns the commands that name an element, with every part in range.
func all(key string) []cmd {
	return []cmd{create(key, "x"), put(key, 1, "x"), del(key, 1)}
}

// numberedKeys returns n keys in order.
func numberedKeys(n int) []string {
	keys := make([]string, n)
	for i := range keys {
		keys[i] = fmt.Sprintf("k/%04d", i)
	}
	return keys
}

// filled returns a store of n objects, and then of m deleted ones.
func filled(n, m int) store {
	var s store
	for i, key := range numberedKeys(n + m) {
		if i < n {
			s.Objs = append(s.Objs, obj{Key: key, Ver: 7, Data: "d"})
		} else {
			s.Gone = append(s.Gone, gone{Key: key, Ver: 8})
		}
	}
	return s
}

// anyStore returns a valid store: objects a (version 1), c (2) and d (the
// greatest version), deleted objects b (3) and e (the greatest version).
func anyStore() store {
	return store{
		Objs: []obj{{Key: "a", Ver: 1, Data: "x"}, {Key: "c", Ver: 2}, {Key: "d", Ver: impl.MaxVer, Data: "z"}},
		Gone: []gone{{Key: "b", Ver: 3}, {Key: "e", Ver: impl.MaxVer}},
	}
}

// keysThatAreNone are no keys of objects.
func keysThatAreNone() []string {
	bad := []string{"", longName(41), longName(42), longName(256 + 1), longName(100000), "a b", "a.b", "A", "aZ", "a_b", "\u00e9", "a\n", "\x00", "_" + longName(39), longName(39) + "_"}
	for b := range 256 {
		if c := string([]byte{byte(b)}); !strings.Contains(keyBytes, c) {
			bad = append(bad, c, "a"+c, c+"a", "a"+c+"a", longName(39)+c)
		}
	}
	return bad
}

// verOutOfRange are no versions of objects.
var verOutOfRange = []int64{0, -1, impl.MaxVer + 1, -impl.MaxVer, 1 << 32, 1<<32 + 1, math.MinInt64, math.MaxInt64}

var longData = strings.Repeat("\xff", 30001)

func TestStoreConstants(t *testing.T) {
	if impl.MaxName != 40 || impl.MaxVer != 1000000 || impl.MaxObj != 30000 || impl.MaxObjs != 1100 || impl.MaxCmds != 200 {
		t.Error("a limit is not the document's")
	}
	if impl.SoOk != 0 || impl.SoForm != 1 || impl.SoThere != 2 || impl.SoFull != 3 || impl.SoNone != 4 || impl.SoVer != 5 {
		t.Error("a code is not the document's")
	}
	if impl.CmCreate != 1 || impl.CmPut != 2 || impl.CmDel != 3 {
		t.Error("a kind is not the document's")
	}
}

func TestStoreExamples(t *testing.T) {
	s := does(t, store{}, create("b/1", "x"), 1)
	refuses(t, "created again", s, create("b/1", "x"), impl.SoThere)
	if o, ok := impl.Get(s, "b/1"); !ok || o != (obj{Key: "b/1", Ver: 1, Data: "x"}) {
		t.Errorf("Get returns %v, %v", o, ok)
	}
	s = does(t, s, put("b/1", 1, "y"), 2)
	refuses(t, "put again", s, put("b/1", 1, "y"), impl.SoVer)
	if o, ok := impl.Get(s, "b/1"); !ok || o != (obj{Key: "b/1", Ver: 2, Data: "y"}) {
		t.Errorf("Get returns %v, %v", o, ok)
	}
	s = does(t, s, del("b/1", 2), 0)
	if !sameStore(s, store{Gone: []gone{{Key: "b/1", Ver: 2}}}) {
		t.Errorf("after Del: %v", s)
	}
	s = does(t, s, create("b/1", "z"), 3)
	if !sameStore(s, store{Objs: []obj{{Key: "b/1", Ver: 3, Data: "z"}}}) {
		t.Errorf("after the second Create: %v", s)
	}
	for _, key := range []string{"c", "b/2", "a", "b/10"} {
		s = does(t, s, create(key, ""), 1)
	}
	if l := impl.List(s, "b/", "", 9); !slices.Equal(l, []string{"b/1", "b/10", "b/2"}) {
		t.Errorf("List returns %q", l)
	}
	if n := impl.CountOf(s, "b"); n != 3 {
		t.Errorf("CountOf returns %d", n)
	}
}

// keyIs fails if a key is accepted or rejected where it should not be.
func keyIs(t *testing.T, key string, want bool) {
	t.Helper()
	if impl.StoreOk(store{Objs: []obj{{Key: key, Ver: 1}}}) != want || impl.StoreOk(store{Gone: []gone{{Key: key, Ver: 1}}}) != want {
		t.Errorf("StoreOk with the key %.100q is not %v", key, want)
	}
	codes := map[bool][]int64{false: {impl.SoForm, impl.SoForm, impl.SoForm}, true: {impl.SoOk, impl.SoNone, impl.SoNone}}[want]
	for i, c := range all(key) {
		if _, _, code := do(store{}, c); code != codes[i] {
			t.Errorf("%.100v has the code %d", c, code)
		}
		if impl.CmdOk(c) != want || (impl.CmdText(c) != "") != want {
			t.Errorf("CmdOk of %.100v is not %v", c, want)
		}
	}
}

func TestKeysOfObjects(t *testing.T) {
	for _, c := range strings.Split(keyBytes, "") {
		for _, key := range []string{c, "a" + c, c + "a", c + c, c + longName(39), longName(39) + c, strings.Repeat(c, 40)} {
			keyIs(t, key, true)
		}
		keyIs(t, strings.Repeat(c, 41), false)
	}
	for _, key := range keysThatAreNone() {
		keyIs(t, key, false)
	}
}

func TestVersionsOfObjects(t *testing.T) {
	for _, ver := range []int64{1, 2, 999999, 1000000} {
		if !impl.StoreOk(store{Objs: []obj{{Key: "a", Ver: ver}}}) || !impl.StoreOk(store{Gone: []gone{{Key: "a", Ver: ver}}}) || !impl.CmdOk(put("a", ver, "")) || !impl.CmdOk(del("a", ver)) {
			t.Errorf("the version %d is rejected", ver)
		}
		refuses(t, "no object", store{}, put("a", ver, ""), impl.SoNone)
		refuses(t, "no object", store{}, del("a", ver), impl.SoNone)
	}
	for _, ver := range verOutOfRange {
		if impl.StoreOk(store{Objs: []obj{{Key: "a", Ver: ver}}}) || impl.StoreOk(store{Gone: []gone{{Key: "a", Ver: ver}}}) || impl.CmdOk(put("a", ver, "")) || impl.CmdOk(del("a", ver)) {
			t.Errorf("the version %d is accepted", ver)
		}
		for _, key := range []string{"a", "b", "d", "zz"} {
			refuses(t, "version", anyStore(), put(key, ver, ""), impl.SoForm)
			refuses(t, "version", anyStore(), del(key, ver), impl.SoForm)
		}
	}
}

func TestDataOfObjects(t *testing.T) {
	full := longData[:30000]
	s := does(t, store{}, create("a", full), 1)
	s = does(t, s, put("a", 1, ""), 2)
	s = does(t, s, put("a", 2, full), 3)
	if o, ok := impl.Get(s, "a"); !ok || o.Data != full {
		t.Error("other data are stored")
	}
	for _, data := range []string{longData, longData + longData} {
		if impl.StoreOk(store{Objs: []obj{{Key: "a", Ver: 1, Data: data}}}) || impl.CmdOk(create("a", data)) || impl.CmdOk(put("a", 1, data)) {
			t.Errorf("%d bytes are accepted", len(data))
		}
		refuses(t, "data", s, create("b", data), impl.SoForm)
		refuses(t, "data", s, create("a", data), impl.SoForm)
		refuses(t, "data", s, put("a", 3, data), impl.SoForm)
	}
	for b := range 256 {
		data := string([]byte{byte(b)})
		if o, ok := impl.Get(does(t, store{}, create("a", data), 1), "a"); !ok || o.Data != data {
			t.Errorf("%q is stored as %q", data, o.Data)
		}
	}
}

// badStores are stores that are not valid, each in one way.
func badStores() map[string]store {
	bad := map[string]store{
		"objects out of order":             {Objs: []obj{{Key: "b", Ver: 1}, {Key: "a", Ver: 1}}},
		"the last objects out of order":    {Objs: []obj{{Key: "a", Ver: 1}, {Key: "c", Ver: 1}, {Key: "b", Ver: 1}}},
		"objects with the same key":        {Objs: []obj{{Key: "a", Ver: 1}, {Key: "a", Ver: 1}}},
		"another version of an object":     {Objs: []obj{{Key: "a", Ver: 1}, {Key: "a", Ver: 2}}},
		"b/2 in front of b/10":             {Objs: []obj{{Key: "b/2", Ver: 1}, {Key: "b/10", Ver: 1}}},
		"deleted objects out of order":     {Gone: []gone{{Key: "b", Ver: 1}, {Key: "a", Ver: 1}}},
		"the last deleted out of order":    {Gone: []gone{{Key: "a", Ver: 1}, {Key: "c", Ver: 1}, {Key: "b", Ver: 1}}},
		"deleted objects of the same key":  {Gone: []gone{{Key: "a", Ver: 1}, {Key: "a", Ver: 1}}},
		"a deleted object twice":           {Gone: []gone{{Key: "a", Ver: 1}, {Key: "a", Ver: 2}}},
		"a key in both lists":              {Objs: []obj{{Key: "a", Ver: 1}}, Gone: []gone{{Key: "a", Ver: 1}}},
		"a key with two versions in both":  {Objs: []obj{{Key: "a", Ver: 2}}, Gone: []gone{{Key: "a", Ver: 1}}},
		"the last key in both":             {Objs: []obj{{Key: "a", Ver: 1}, {Key: "d", Ver: 1}}, Gone: []gone{{Key: "b", Ver: 1}, {Key: "c", Ver: 1}, {Key: "d", Ver: 1}}},
		"the first key in both":            {Objs: []obj{{Key: "a", Ver: 1}, {Key: "b", Ver: 1}, {Key: "c", Ver: 1}}, Gone: []gone{{Key: "a", Ver: 1}, {Key: "d", Ver: 1}}},
		"the first object, the last gone":  {Objs: []obj{{Key: "c", Ver: 1}, {Key: "d", Ver: 1}}, Gone: []gone{{Key: "a", Ver: 1}, {Key: "b", Ver: 1}, {Key: "c", Ver: 1}}},
		"objects out of order beside gone": {Objs: []obj{{Key: "d", Ver: 1}, {Key: "b", Ver: 1}}, Gone: []gone{{Key: "a", Ver: 1}, {Key: "c", Ver: 1}}},
		"gone out of order beside objects": {Objs: []obj{{Key: "a", Ver: 1}, {Key: "c", Ver: 1}}, Gone: []gone{{Key: "d", Ver: 1}, {Key: "b", Ver: 1}}},
		"too much data":                    {Objs: []obj{{Key: "a", Ver: 1, Data: longData}}},
		"too much data of the last object": {Objs: []obj{{Key: "a", Ver: 1}, {Key: "c", Ver: 1, Data: longData}}},
		"too many objects":                 filled(1101, 0),
		"too many deleted objects":         filled(0, 1101),
		"too many of both":                 filled(550, 551),
		"one object too many":              filled(1, 1100),
		"one deleted object too many":      filled(1100, 1),
		"far too many":                     filled(5000, 5000),
	}
	for _, ver := range verOutOfRange {
		bad[fmt.Sprint("an object of version ", ver)] = store{Objs: []obj{{Key: "a", Ver: ver}}}
		bad[fmt.Sprint("a last object of version ", ver)] = store{Objs: []obj{{Key: "a", Ver: 1}, {Key: "b", Ver: ver}}}
		bad[fmt.Sprint("a deleted object of version ", ver)] = store{Gone: []gone{{Key: "a", Ver: ver}}}
		bad[fmt.Sprint("a last deleted object of version ", ver)] = store{Gone: []gone{{Key: "a", Ver: 1}, {Key: "b", Ver: ver}}}
	}
	for _, key := range []string{"", "A", "b ", "~", longName(41)} {
		bad[fmt.Sprintf("the key %q", key)] = store{Objs: []obj{{Key: key, Ver: 1}}}
		bad[fmt.Sprintf("the deleted key %q", key)] = store{Gone: []gone{{Key: key, Ver: 1}}}
	}
	for _, key := range []string{"b ", "~", "z" + longName(40)} {
		bad[fmt.Sprintf("the last key %q", key)] = store{Objs: []obj{{Key: "a", Ver: 1}, {Key: key, Ver: 1}}}
		bad[fmt.Sprintf("the last deleted key %q", key)] = store{Gone: []gone{{Key: "a", Ver: 1}, {Key: key, Ver: 1}}}
	}
	return bad
}

func TestStoreOk(t *testing.T) {
	for _, s := range []store{
		{}, {Objs: []obj{}, Gone: []gone{}}, anyStore(),
		{Objs: []obj{{Key: "b", Ver: 1}}, Gone: []gone{{Key: "a", Ver: 1}}},
		{Objs: []obj{{Key: "a", Ver: 1}}, Gone: []gone{{Key: "aa", Ver: 1}}},
		{Objs: []obj{{Key: "-", Ver: 1}, {Key: "/", Ver: 1}, {Key: "0", Ver: 1}, {Key: "9", Ver: 1}, {Key: "a", Ver: 1}, {Key: "z", Ver: 1}}},
		{Objs: []obj{{Key: "b", Ver: 1}, {Key: "b/1", Ver: 1}, {Key: "b/10", Ver: 1}, {Key: "b/2", Ver: 1}}},
		{Objs: []obj{{Key: longName(39), Ver: 1}, {Key: longName(40), Ver: 1, Data: longData[1:]}}},
		filled(1100, 0), filled(0, 1100), filled(550, 550), filled(1099, 1), filled(1, 1099),
	} {
		if !impl.StoreOk(s) {
			t.Errorf("not valid: %s", showStore(s))
		}
	}
	for name, s := range badStores() {
		if impl.StoreOk(s) {
			t.Errorf("%s: valid", name)
		}
	}
}

// SoForm comes before all other codes, whichever argument is not valid.
func TestStoreForm(t *testing.T) {
	for name, s := range badStores() {
		for _, key := range []string{"a", "b", "k/0000", "zz"} {
			for _, c := range all(key) {
				refuses(t, name, s, c, impl.SoForm)
			}
			refuses(t, name, s, put(key, 2, ""), impl.SoForm)
			refuses(t, name, s, del(key, 2), impl.SoForm)
		}
	}
	stores := []store{{}, anyStore(), filled(1100, 0), filled(0, 1100)}
	for _, s := range stores {
		for _, key := range keysThatAreNone()[:12] {
			for _, c := range all(key) {
				refuses(t, "key", s, c, impl.SoForm)
			}
		}
		for _, key := range []string{"a", "b", "zz", "k/0000"} {
			refuses(t, "data", s, create(key, longData), impl.SoForm)
			refuses(t, "data", s, put(key, 7, longData), impl.SoForm)
			for _, ver := range verOutOfRange {
				refuses(t, "version", s, put(key, ver, ""), impl.SoForm)
				refuses(t, "version", s, del(key, ver), impl.SoForm)
			}
		}
	}
}

// The codes of each function, and their order where two of them apply.
func TestStoreCodes(t *testing.T) {
	s := anyStore()
	for _, key := range []string{"a", "c", "d"} {
		refuses(t, "an object", s, create(key, ""), impl.SoThere)
	}
	refuses(t, "gone at the greatest version", s, create("e", ""), impl.SoFull)
	for _, key := range []string{"0", "aa", "b", "e", "zz"} {
		for _, ver := range []int64{1, 2, 3, impl.MaxVer} {
			refuses(t, "no object", s, put(key, ver, ""), impl.SoNone)
			refuses(t, "no object", s, del(key, ver), impl.SoNone)
		}
	}
	for key, ver := range map[string]int64{"a": 1, "c": 2, "d": impl.MaxVer} {
		for _, other := range []int64{1, 2, 3, impl.MaxVer - 1, impl.MaxVer} {
			if other != ver {
				refuses(t, "another version", s, put(key, other, ""), impl.SoVer)
				refuses(t, "another version", s, del(key, other), impl.SoVer)
			}
		}
	}
	refuses(t, "the greatest version", s, put("d", impl.MaxVer, ""), impl.SoFull)
	for _, full := range []store{filled(1100, 0), filled(1099, 1), filled(550, 550)} {
		refuses(t, "there, and full", full, create("k/0000", ""), impl.SoThere)
		refuses(t, "full", full, put("zz", 1, ""), impl.SoNone)
	}
}

// What each accepted command makes of a store.
func TestStoreChanges(t *testing.T) {
	s := anyStore()
	objs, away := s.Objs, s.Gone
	for _, test := range []struct {
		c    cmd
		ver  int64
		want store
	}{
		{create("b", "new"), 4, store{Objs: []obj{objs[0], {Key: "b", Ver: 4, Data: "new"}, objs[1], objs[2]}, Gone: away[1:]}},
		{create("0", "new"), 1, store{Objs: []obj{{Key: "0", Ver: 1, Data: "new"}, objs[0], objs[1], objs[2]}, Gone: away}},
		{create("bb", ""), 1, store{Objs: []obj{objs[0], {Key: "bb", Ver: 1}, objs[1], objs[2]}, Gone: away}},
		{create("f", ""), 1, store{Objs: []obj{objs[0], objs[1], objs[2], {Key: "f", Ver: 1}}, Gone: away}},
		{put("a", 1, "new"), 2, store{Objs: []obj{{Key: "a", Ver: 2, Data: "new"}, objs[1], objs[2]}, Gone: away}},
		{put("a", 1, "x"), 2, store{Objs: []obj{{Key: "a", Ver: 2, Data: "x"}, objs[1], objs[2]}, Gone: away}},
		{put("c", 2, ""), 3, store{Objs: []obj{objs[0], {Key: "c", Ver: 3}, objs[2]}, Gone: away}},
		{del("a", 1), 0, store{Objs: objs[1:], Gone: []gone{{Key: "a", Ver: 1}, away[0], away[1]}}},
		{del("c", 2), 0, store{Objs: []obj{objs[0], objs[2]}, Gone: []gone{away[0], {Key: "c", Ver: 2}, away[1]}}},
		{del("d", impl.MaxVer), 0, store{Objs: objs[:2], Gone: []gone{away[0], {Key: "d", Ver: impl.MaxVer}, away[1]}}},
	} {
		next := does(t, anyStore(), test.c, test.ver)
		if !sameStore(next, test.want) {
			t.Errorf("%v returns %v instead of %v", test.c, next, test.want)
		}
	}
}

func TestGreatestVersion(t *testing.T) {
	s := store{Objs: []obj{{Key: "a", Ver: impl.MaxVer - 1}}}
	s = does(t, s, put("a", impl.MaxVer-1, "last"), impl.MaxVer)
	refuses(t, "put", s, put("a", impl.MaxVer, ""), impl.SoFull)
	refuses(t, "put", s, put("a", impl.MaxVer-1, ""), impl.SoVer)
	s = does(t, s, del("a", impl.MaxVer), 0)
	refuses(t, "create", s, create("a", ""), impl.SoFull)
	if v := impl.VerOf(s, "a"); v != impl.MaxVer {
		t.Errorf("VerOf returns %d", v)
	}
	s = store{Gone: []gone{{Key: "a", Ver: impl.MaxVer - 1}}}
	s = does(t, s, create("a", ""), impl.MaxVer)
	refuses(t, "created", s, create("a", ""), impl.SoThere)
	refuses(t, "created", s, put("a", impl.MaxVer, ""), impl.SoFull)
}

// A full store has no room for a key that is in neither list, and only that.
func TestFullStore(t *testing.T) {
	for _, s := range []store{filled(1100, 0), filled(0, 1100), filled(600, 500), filled(1099, 1), filled(1, 1099)} {
		for _, key := range []string{"a", "k/0000/a", "zz"} {
			refuses(t, "full", s, create(key, ""), impl.SoFull)
		}
		for _, o := range s.Objs[:min(1, len(s.Objs))] {
			does(t, s, put(o.Key, o.Ver, "new"), o.Ver+1)
			less := does(t, s, del(o.Key, o.Ver), 0)
			refuses(t, "still full", less, create("zz", ""), impl.SoFull)
			does(t, less, create(o.Key, ""), o.Ver+1)
		}
		for _, g := range s.Gone[:min(1, len(s.Gone))] {
			does(t, s, create(g.Key, ""), g.Ver+1)
		}
		for _, g := range s.Gone[max(0, len(s.Gone)-1):] {
			does(t, s, create(g.Key, ""), g.Ver+1)
		}
	}
	for _, s := range []store{filled(1099, 0), filled(0, 1099), filled(600, 499)} {
		full := does(t, s, create("zz", ""), 1)
		refuses(t, "full", full, create("zzz", ""), impl.SoFull)
	}
	s := filled(1, 1099)
	s.Gone[0].Ver = impl.MaxVer
	refuses(t, "the greatest version in a full store", s, create(s.Gone[0].Key, ""), impl.SoFull)
}

// modelStore is a store whose versions are kept apart from its data. A key
// with a version and without data is deleted.
type modelStore struct {
	data map[string]string
	ver  map[string]int64
}

func newModel() modelStore {
	return modelStore{data: map[string]string{}, ver: map[string]int64{}}
}

func (m modelStore) store() store {
	var s store
	for _, key := range slices.Sorted(maps.Keys(m.ver)) {
		if data, there := m.data[key]; there {
			s.Objs = append(s.Objs, obj{Key: key, Ver: m.ver[key], Data: data})
		} else {
			s.Gone = append(s.Gone, gone{Key: key, Ver: m.ver[key]})
		}
	}
	return s
}

// do performs a valid command whose version and key have room in the model.
func (m modelStore) do(c cmd) (ver int64, code int64) {
	_, there := m.data[c.Key]
	switch {
	case c.Kind == impl.CmCreate && there:
		return 0, impl.SoThere
	case c.Kind != impl.CmCreate && !there:
		return 0, impl.SoNone
	case c.Kind != impl.CmCreate && m.ver[c.Key] != c.Ver:
		return 0, impl.SoVer
	case c.Kind == impl.CmDel:
		delete(m.data, c.Key)
		return 0, impl.SoOk
	}
	m.ver[c.Key]++
	m.data[c.Key] = c.Data
	return m.ver[c.Key], impl.SoOk
}

// randomCmd returns a valid command of one of a few keys, whose version is
// often the one that the object has.
func randomCmd(random *rand.Rand, m modelStore) cmd {
	key := []string{"a", "a/b", "b", "b/1", "b/10", "b/2", "c"}[random.Intn(7)]
	ver := max(1, m.ver[key]+random.Int63n(4)/2-random.Int63n(4)/3)
	data := strings.Repeat(string([]byte{byte(random.Intn(256))}), random.Intn(3))
	switch random.Intn(3) {
	case 0:
		return create(key, data)
	case 1:
		return put(key, ver, data)
	}
	return del(key, ver)
}

// Promise 7: creation yields a version that the key never had, and the
// version of a key never decreases.
func TestVersions(t *testing.T) {
	random := rand.New(rand.NewSource(11))
	codes := map[int64]int{}
	for range 40 {
		m, s := newModel(), store{}
		had := map[string]map[int64]bool{}
		for range 200 {
			c := randomCmd(random, m)
			before := impl.VerOf(s, c.Key)
			wantVer, wantCode := m.do(c)
			next, ver, code := do(s, c)
			codes[code]++
			if ver != wantVer || code != wantCode || code != impl.SoOk && !emptyStore(next) {
				t.Fatalf("%v of %v: version %d, code %d, %v", c, s, ver, code, next)
			}
			if code != impl.SoOk {
				continue
			}
			s = next
			if !sameStore(s, m.store()) || impl.VerOf(s, c.Key) < before {
				t.Fatalf("after %v: %v instead of %v", c, s, m.store())
			}
			if had[c.Key] == nil {
				had[c.Key] = map[int64]bool{}
			}
			if c.Kind == impl.CmCreate && had[c.Key][ver] {
				t.Fatalf("%s is created with the version %d for the second time", c.Key, ver)
			}
			had[c.Key][impl.VerOf(s, c.Key)] = true
			finds(t, s, m)
		}
	}
	for _, code := range []int64{impl.SoOk, impl.SoThere, impl.SoNone, impl.SoVer} {
		if codes[code] < 100 {
			t.Errorf("the code %d occurs only %d times", code, codes[code])
		}
	}
}

// finds fails if the functions that read a store find something else than
// what is in the model.
func finds(t *testing.T, s store, m modelStore) {
	t.Helper()
	for _, key := range []string{"a", "a/", "a/b", "b", "b/1", "b/10", "b/2", "b/3", "c", "", "zz"} {
		data, there := m.data[key]
		want := obj{}
		if there {
			want = obj{Key: key, Ver: m.ver[key], Data: data}
		}
		if o, ok := impl.Get(s, key); ok != there || o != want {
			t.Fatalf("Get of %q of %v returns %v, %v", key, s, o, ok)
		}
		if v := impl.VerOf(s, key); v != m.ver[key] {
			t.Fatalf("VerOf of %q of %v returns %d", key, s, v)
		}
		lists(t, s, key, "", 100)
		lists(t, s, "", key, 2)
		lists(t, s, "b", key, 1)
	}
}

// lists fails if List or CountOf of a store of at most 100 objects returns
// something else than the keys of its objects say.
func lists(t *testing.T, s store, prefix, after string, n int64) {
	t.Helper()
	var keys, later []string
	for _, o := range s.Objs {
		if len(o.Key) >= len(prefix) && o.Key[:len(prefix)] == prefix {
			keys = append(keys, o.Key)
			if o.Key > after {
				later = append(later, o.Key)
			}
		}
	}
	later = later[:min(int(n), len(later))]
	if l := impl.List(s, prefix, after, n); !slices.Equal(l, later) {
		t.Fatalf("List of %q after %q returns %.200q instead of %.200q", prefix, after, l, later)
	}
	if count := impl.CountOf(s, prefix); count != int64(len(keys)) {
		t.Fatalf("CountOf of %q returns %d instead of %d", prefix, count, len(keys))
	}
}

// A key that is deleted and created again and again, once it is put and once
// it is not, gets a greater version each time.
func TestCreatedAgain(t *testing.T) {
	s, last := store{}, int64(0)
	for i := range 300 {
		s = does(t, s, create("a", fmt.Sprint(i)), last+1)
		last++
		if i%2 == 0 {
			s = does(t, s, put("a", last, ""), last+1)
			last++
		}
		if len(s.Objs) != 1 || len(s.Gone) != 0 || impl.VerOf(s, "a") != last {
			t.Fatalf("%v", s)
		}
		s = does(t, s, del("a", last), 0)
		if len(s.Objs) != 0 || !slices.Equal(s.Gone, []gone{{Key: "a", Ver: last}}) || impl.VerOf(s, "a") != last {
			t.Fatalf("%v", s)
		}
		if o, ok := impl.Get(s, "a"); ok || o != (obj{}) {
			t.Fatalf("a deleted object is found: %v", o)
		}
		refuses(t, "deleted", s, del("a", last), impl.SoNone)
		refuses(t, "deleted", s, put("a", last, ""), impl.SoNone)
	}
}

// Promise 7: listing page by page yields all keys.
func TestListPages(t *testing.T) {
	s := filled(1050, 50)
	for _, prefix := range []string{"", "k", "k/0", "k/01", "k/1049", "k/10499", "j", "kk"} {
		var want []string
		for _, o := range s.Objs {
			if strings.HasPrefix(o.Key, prefix) {
				want = append(want, o.Key)
			}
		}
		for _, n := range []int64{1, 2, 7, 99, 100} {
			var got []string
			for after := ""; ; after = got[len(got)-1] {
				page := impl.List(s, prefix, after, n)
				if len(page) == 0 {
					break
				}
				if int64(len(page)) > n || int64(len(page)) < n && len(got)+len(page) != len(want) {
					t.Fatalf("a page of %d keys", len(page))
				}
				got = append(got, page...)
			}
			if !slices.Equal(got, want) || impl.CountOf(s, prefix) != int64(len(want)) {
				t.Errorf("%d keys a page: %d keys begin with %q", n, len(got), prefix)
			}
		}
	}
}

func TestListLimits(t *testing.T) {
	s := filled(150, 5)
	keys := numberedKeys(150)
	for _, n := range []int64{1, 2, 99, 100} {
		if l := impl.List(s, "", "", n); !slices.Equal(l, keys[:n]) {
			t.Errorf("n = %d: %d keys", n, len(l))
		}
	}
	for _, n := range []int64{0, -1, 101, 102, 150, 256 + 1, 1<<32 + 1, math.MinInt64, math.MaxInt64} {
		if l := impl.List(s, "", "", n); len(l) != 0 {
			t.Errorf("n = %d: %d keys", n, len(l))
		}
	}
	few := filled(3, 5)
	for n := int64(3); n <= 100; n++ {
		if l := impl.List(few, "", "", n); !slices.Equal(l, keys[:3]) {
			t.Errorf("n = %d: %q", n, l)
		}
	}
}

// The key after which List begins need not be one of the store, nor one at all.
func TestListAfter(t *testing.T) {
	s := store{
		Objs: []obj{{Key: "a", Ver: 1}, {Key: "b/1", Ver: 1}, {Key: "b/10", Ver: 1}, {Key: "b/2", Ver: 1}, {Key: "c", Ver: 1}},
		Gone: []gone{{Key: "b/11", Ver: 1}},
	}
	for _, test := range []struct {
		prefix, after string
		n             int64
		want          []string
	}{
		{"", "", 9, []string{"a", "b/1", "b/10", "b/2", "c"}},
		{"", "a", 9, []string{"b/1", "b/10", "b/2", "c"}},
		{"", "b/1", 2, []string{"b/10", "b/2"}},
		{"", "b/11", 9, []string{"b/2", "c"}},
		{"", "b/1\x00", 1, []string{"b/10"}},
		{"", "B", 2, []string{"a", "b/1"}},
		{"", "\xff", 9, nil},
		{"", "c", 9, nil},
		{"", "bb", 9, []string{"c"}},
		{"", longName(1000), 9, nil},
		{"b", "b/10", 9, []string{"b/2"}},
		{"b/", "a", 2, []string{"b/1", "b/10"}},
		{"b/", "c", 9, nil},
		{"b/1", "", 9, []string{"b/1", "b/10"}},
		{"b/1", "b/1", 9, []string{"b/10"}},
		{"b/11", "", 9, nil},
		{"c", "a", 9, []string{"c"}},
		{"C", "", 9, nil},
		{" ", "", 9, nil},
		{"b/100", "", 9, nil},
		{longName(1000), "", 9, nil},
	} {
		if l := impl.List(s, test.prefix, test.after, test.n); !slices.Equal(l, test.want) {
			t.Errorf("%v: %q", test, l)
		}
		lists(t, s, test.prefix, test.after, test.n)
	}
}

// Get, List, VerOf and CountOf do not check whether the store is valid.
func TestReadsOfStoresThatAreNotValid(t *testing.T) {
	s := store{
		Objs: []obj{{Key: "c", Ver: -5, Data: longData}, {Key: "a b", Ver: 2}, {Key: "a", Ver: 3}, {Key: "", Ver: 4}, {Key: "cc", Ver: 0}, {Key: "cA", Ver: math.MaxInt64}},
		Gone: []gone{{Key: "z", Ver: -1}, {Key: "a", Ver: 9}, {Key: "B", Ver: math.MinInt64}},
	}
	for _, o := range s.Objs {
		if got, ok := impl.Get(s, o.Key); !ok || got != o || impl.VerOf(s, o.Key) != o.Ver {
			t.Errorf("the key %q: %.100v, %v, %d", o.Key, got, ok, impl.VerOf(s, o.Key))
		}
	}
	for key, ver := range map[string]int64{"z": -1, "B": math.MinInt64, "b": 0, "C": 0} {
		if o, ok := impl.Get(s, key); ok || o != (obj{}) || impl.VerOf(s, key) != ver {
			t.Errorf("the key %q: %v, %v, %d", key, o, ok, impl.VerOf(s, key))
		}
	}
	for _, test := range []struct {
		prefix, after string
		n             int64
		want          []string
	}{
		{"", "", 100, []string{"c", "a b", "a", "cc", "cA"}},
		{"", "a", 100, []string{"c", "a b", "cc", "cA"}},
		{"", "", 3, []string{"c", "a b", "a"}},
		{"c", "", 100, []string{"c", "cc", "cA"}},
		{"c", "c", 1, []string{"cc"}},
		{"c", "cA", 100, []string{"cc"}},
		{"a", "", 1, []string{"a b"}},
		{"z", "", 1, nil},
	} {
		if l := impl.List(s, test.prefix, test.after, test.n); !slices.Equal(l, test.want) {
			t.Errorf("%v: %q", test, l)
		}
	}
	for prefix, want := range map[string]int64{"": 6, "c": 3, "a": 2, "a ": 1, "z": 0, "B": 0} {
		if n := impl.CountOf(s, prefix); n != want {
			t.Errorf("CountOf of %q returns %d", prefix, n)
		}
	}
	many := filled(3000, 0)
	if o, ok := impl.Get(many, "k/2999"); !ok || o.Ver != 7 || impl.CountOf(many, "k/2") != 1000 || len(impl.List(many, "", "k/2998", 100)) != 1 {
		t.Error("a store with too many objects is not read")
	}
	none := store{Gone: []gone{{Key: "a", Ver: 3}, {Key: "b", Ver: 4}}}
	if impl.VerOf(none, "a") != 3 || impl.VerOf(none, "b") != 4 || impl.CountOf(none, "") != 0 || len(impl.List(none, "", "", 100)) != 0 {
		t.Error("deleted objects are counted or not found")
	}
}

// cmdText is the document's text of a valid command.
func cmdText(c cmd) string {
	data := hex.EncodeToString([]byte(c.Data))
	if data == "" {
		data = "-"
	}
	switch c.Kind {
	case impl.CmCreate:
		return fmt.Sprintf("create %s %s", c.Key, data)
	case impl.CmPut:
		return fmt.Sprintf("put %s %d %s", c.Key, c.Ver, data)
	}
	return fmt.Sprintf("del %s %d", c.Key, c.Ver)
}

// isCmd fails if a command is not valid or not recovered from its text.
func isCmd(t *testing.T, c cmd) {
	t.Helper()
	if !impl.CmdOk(c) {
		t.Fatalf("CmdOk of %.200v is false", c)
	}
	recovers(t, c, cmdText(c), impl.CmdText, impl.ReadCmd)
}

// cmdTexts are texts of commands.
func cmdTexts() []string {
	return []string{
		"create a -", "create a/1 00ff", "create create 0a", "create - -", "create -/0 61626364", "create " + longName(40) + " 7f80",
		"put a 3 61", "put a 1 -", "put put 1000000 00", "put 7 7 77", "put - 999999 fedcba9876543210",
		"del a 1000000", "del del 1", "del " + longName(40) + " 10", "del - 20",
	}
}

// Promise 7: a command is recovered from its text.
func TestCmdText(t *testing.T) {
	for _, s := range cmdTexts() {
		c, ok := impl.ReadCmd(s)
		if !ok || cmdText(c) != s {
			t.Errorf("ReadCmd(%q) = %v, %v", s, c, ok)
		}
		isCmd(t, c)
	}
	for s, want := range map[string]cmd{"create a -": create("a", ""), "put a 3 61": put("a", 3, "a"), "del a 1000000": del("a", 1000000), "create a/1 00ff": create("a/1", "\x00\xff")} {
		if c, ok := impl.ReadCmd(s); !ok || c != want {
			t.Errorf("ReadCmd(%q) = %v, %v", s, c, ok)
		}
	}
	for b := range 256 {
		data := string([]byte{byte(b)})
		isCmd(t, create("a", data))
		isCmd(t, put("a", 1, data+"\x00"+data))
	}
	for n := 1; n <= 40; n++ {
		for _, c := range all(longName(n)) {
			isCmd(t, c)
		}
	}
	for _, ver := range []int64{1, 9, 10, 99999, 999999, 1000000} {
		isCmd(t, put("a", ver, "x"))
		isCmd(t, del("a", ver))
	}
	isCmd(t, create("a", longData[1:]))
	isCmd(t, put("a", 1, longData[1:]))
	random := rand.New(rand.NewSource(12))
	for range 3000 {
		isCmd(t, randomCmd(random, newModel()))
	}
}

// badCmds are commands that are not valid, each because of one field.
func badCmds() []cmd {
	bad := []cmd{{}, create("a", longData), put("a", 1, longData), {Kind: impl.CmDel, Key: "a", Ver: 1, Data: "x"}, {Kind: impl.CmDel, Key: "a", Ver: 1, Data: longData}}
	for _, kind := range []int64{0, -1, 4, 9, 256 + 1, 1<<32 + 1, math.MinInt64, math.MaxInt64} {
		bad = append(bad, cmd{Kind: kind, Key: "a"}, cmd{Kind: kind, Key: "a", Ver: 1}, cmd{Kind: kind, Key: "a", Ver: 1, Data: "x"})
	}
	for _, ver := range verOutOfRange {
		bad = append(bad, put("a", ver, "x"), del("a", ver))
	}
	for _, ver := range []int64{1, -1, impl.MaxVer, impl.MaxVer + 1, math.MinInt64} {
		bad = append(bad, cmd{Kind: impl.CmCreate, Key: "a", Ver: ver})
	}
	for _, key := range []string{"", "A", "a b", longName(41)} {
		bad = append(bad, all(key)...)
	}
	return bad
}

func TestCmdsThatAreNotValid(t *testing.T) {
	for _, c := range badCmds() {
		if impl.CmdOk(c) || impl.CmdText(c) != "" {
			t.Errorf("%.200v is valid: %.100q", c, impl.CmdText(c))
		}
		if s, codes := impl.StorePlayed([]cmd{c}); !slices.Equal(codes, []int64{impl.SoForm}) || !emptyStore(s) {
			t.Errorf("StorePlayed of %.200v returns %v", c, codes)
		}
	}
}

func TestReadCmdRejects(t *testing.T) {
	for _, s := range []string{
		"", " ", "  ", "   ", "-", "a", "create", "put", "del", "create ", "create a", "create a ", "create  a -", "create a  -", " create a -", "create a - ", "create a -\n", "create\ta -", "create a -\x00", "createa -", "create -",
		"put a 1", "put a 1 ", "put a -", "put  a 1 -", "put a  1 -", "put a 1  -", " put a 1 -", "put a 1 - ", "put a 1 - -", "put 1 a -", "put 1 -", "put a 61 1 -",
		"del a", "del a ", "del  a 1", "del a  1", " del a 1", "del a 1 ", "del a 1\n", "del 1", "del a 1 -", "del a 1 61", "del a -", "del a 1 1",
		"create a 1 -", "create a 1 61", "create a - -", "create a 61 61", "create A -", "create a.b -", "create " + longName(41) + " -", "create  -", "create \xe9 -",
		"Create a -", "CREATE a -", "creates a -", "creat a -", "Put a 1 -", "puts a 1 -", "Del a 1", "delete a 1", "fly a 1", "1 a -", "2 a 1 -", "3 a 1",
		"put a 0 -", "put a 01 -", "put a -1 -", "put a +1 -", "put a 1000001 -", "put a 1.0 -", "put a 0x1 -", "put a 1e3 -", "put a one -", "put a 9223372036854775808 -", "put a 18446744073709551617 -", "put a 4294967297 -", "put a 00000000000000000001 -", "put a 1_0 -", "put a -0 -",
		"del a 0", "del a 01", "del a -1", "del a +1", "del a 1000001", "del a 1.0", "del a 18446744073709551617", "del a x", "del a 1000000000000000000000",
		"create a 0", "create a 000", "create a 0g", "create a g0", "create a zz", "create a 0A", "create a A0", "create a FF", "create a fF", "create a 0x00", "create a -00", "create a 00-", "create a --", "create a 00 ff", "create a +0", "create a \xff\xff", "create a 0\xc3\xa9", "create a 61\n",
		"put a 1 0", "put a 1 000", "put a 1 0G", "put a 1 6", "put a 1 AB", "put a 1 --", "put a 1 61 62",
		"create a " + strings.Repeat("0", 60002), "put a 1 " + strings.Repeat("f", 60002), "create a " + strings.Repeat("0", 59999), "create a " + strings.Repeat("0", 60001),
		"create a -\ncreate b -", "create a - put a 1 -", strings.Repeat(" ", 100000), strings.Repeat("create ", 100000), strings.Repeat("a", 100000),
	} {
		if c, ok := impl.ReadCmd(s); ok || c != (cmd{}) {
			t.Errorf("ReadCmd(%.100q) = %.100v, %v", s, c, ok)
		}
	}
	if c, ok := impl.ReadCmd("put a 1 " + strings.Repeat("f", 60000)); !ok || c.Data != longData[1:] {
		t.Error("the longest data are rejected")
	}
}

// A string that ReadCmd accepts is the text of the command that it returns.
func TestReadCmdAcceptsOnlyTexts(t *testing.T) {
	isZero := func(c cmd) bool { return c == cmd{} }
	readsOnly(t, cmdTexts(), impl.ReadCmd, cmdText, isZero)
	readsOnly(t, cmdTexts(), impl.ReadCmd, impl.CmdText, isZero)
}

// folded is StorePlayed by single calls of Create, Put and Del.
func folded(list []cmd) (store, []int64) {
	s := store{}
	codes := make([]int64, len(list))
	for i, c := range list {
		codes[i] = impl.SoForm
		if !impl.CmdOk(c) {
			continue
		}
		next, _, code := do(s, c)
		codes[i] = code
		if code == impl.SoOk {
			s = next
		}
	}
	return s, codes
}

// plays fails if StorePlayed returns another result than single calls do.
func plays(t *testing.T, list []cmd) (store, []int64) {
	t.Helper()
	s, codes := impl.StorePlayed(list)
	wantStore, wantCodes := folded(list)
	if !sameStore(s, wantStore) || !slices.Equal(codes, wantCodes) {
		t.Fatalf("StorePlayed of %.300v returns %v, %v instead of %v, %v", list, s, codes, wantStore, wantCodes)
	}
	return s, codes
}

func TestStorePlayed(t *testing.T) {
	s, codes := plays(t, []cmd{
		create("a", ""), create("a", "y"), {Kind: 9}, put("a", 1, "x"), del("b", 1), put("a", 1, "z"), {Kind: impl.CmCreate, Key: "c", Ver: 1}, create("b", "-"),
		del("b", 2), del("b", 1), create("b", "again"), del("a", 2), put("a", 2, ""), create("0", "0"), {Kind: impl.CmDel, Key: "0", Ver: 1, Data: "x"}, create("c", longData),
	})
	want := store{Objs: []obj{{Key: "0", Ver: 1, Data: "0"}, {Key: "b", Ver: 2, Data: "again"}}, Gone: []gone{{Key: "a", Ver: 2}}}
	if !sameStore(s, want) {
		t.Errorf("%v instead of %v", s, want)
	}
	const ok, form, there, none, ver = impl.SoOk, impl.SoForm, impl.SoThere, impl.SoNone, impl.SoVer
	if !slices.Equal(codes, []int64{ok, there, form, ok, none, ver, form, ok, ver, ok, ok, ok, none, ok, form, form}) {
		t.Errorf("%v", codes)
	}
	for _, list := range [][]cmd{nil, {}} {
		if s, codes := plays(t, list); !emptyStore(s) || len(codes) != 0 {
			t.Errorf("%v, %v", s, codes)
		}
	}
	random := rand.New(rand.NewSource(13))
	for range 60 {
		m := newModel()
		list := make([]cmd, random.Intn(201))
		for i := range list {
			list[i] = randomCmd(random, m)
			m.do(list[i])
			if bad := badCmds(); random.Intn(9) == 0 {
				list[i] = bad[random.Intn(len(bad))]
			}
		}
		plays(t, list)
	}
}

func TestStorePlayedLimit(t *testing.T) {
	var list []cmd
	for _, key := range numberedKeys(201) {
		list = append(list, create(key, longData[:100]))
	}
	slices.Reverse(list)
	if s, codes := plays(t, list[:200]); len(s.Objs) != 200 || len(codes) != 200 || slices.Max(codes) != impl.SoOk {
		t.Errorf("%d objects, %d codes", len(s.Objs), len(codes))
	}
	for _, n := range []int{201, 202, 5000} {
		for _, l := range [][]cmd{slices.Repeat(list, 25)[:n], make([]cmd, n)} {
			if s, codes := impl.StorePlayed(l); !emptyStore(s) || len(codes) != 0 {
				t.Errorf("%d commands: %s, %d codes", n, showStore(s), len(codes))
			}
		}
	}
}

// use calls every function that is given a store.
func use(s store) {
	impl.StoreOk(s)
	for _, key := range []string{"", "0", "a", "b", "c", "d", "e", "f", "k/0000", "k/1099", "zz"} {
		for ver := int64(0); ver < 4; ver++ {
			impl.Create(s, key, "new")
			impl.Put(s, key, ver, "new")
			impl.Del(s, key, ver)
		}
		impl.Put(s, key, impl.MaxVer, "new")
		impl.Del(s, key, impl.MaxVer)
		impl.Get(s, key)
		impl.List(s, key, "", 100)
		impl.List(s, "", key, 1)
		impl.VerOf(s, key)
		impl.CountOf(s, key)
	}
}

// keepsStore fails if f modifies the lists of a store or what is behind them.
func keepsStore(t *testing.T, s store, f func(s store)) {
	t.Helper()
	keeps(t, "a function of stores", s.Objs, obj{Key: "spare", Ver: 77}, func(l []obj) { f(store{Objs: l, Gone: s.Gone}) })
	keeps(t, "a function of stores", s.Gone, gone{Key: "spare", Ver: 77}, func(l []gone) { f(store{Objs: s.Objs, Gone: l}) })
}

// Promise 15: no argument is modified, and no result shares memory.
func TestStoresMemory(t *testing.T) {
	for _, s := range []store{{}, anyStore(), filled(3, 3), filled(1000, 100)} {
		keepsStore(t, s, use)
	}
	for _, s := range badStores() {
		keepsStore(t, s, use)
	}
	list := []cmd{create("a", "x"), create("b", ""), {Kind: 9}, put("a", 1, "y"), del("b", 1), del("b", 1)}
	keeps(t, "StorePlayed", list, cmd{Kind: 7}, func(l []cmd) { impl.StorePlayed(l) })
	s := anyStore()
	for _, c := range []cmd{create("b", "new"), create("f", ""), put("a", 1, ""), put("c", 2, ""), del("a", 1), del("c", 2)} {
		result := func() store { next, _, _ := do(s, c); return next }
		fresh(t, "Objs", obj{Key: "mark"}, func() []obj { return result().Objs })
		fresh(t, "Gone", gone{Key: "mark"}, func() []gone { return result().Gone })
	}
	if !sameStore(s, anyStore()) {
		t.Errorf("a write into a result changed an argument: %v", s)
	}
	fresh(t, "List", "mark", func() []string { return impl.List(s, "", "", 9) })
	fresh(t, "StorePlayed", obj{Key: "mark"}, func() []obj { s, _ := impl.StorePlayed(list); return s.Objs })
	fresh(t, "StorePlayed", gone{Key: "mark"}, func() []gone { s, _ := impl.StorePlayed(list); return s.Gone })
	fresh(t, "StorePlayed", -1, func() []int64 { _, codes := impl.StorePlayed(list); return codes })
	if !sameStore(s, anyStore()) {
		t.Errorf("a write into a result changed an argument: %v", s)
	}
}

// Promise 15: equal arguments yield equal results, also at the same time.
func TestStoresAreRepeated(t *testing.T) {
	s := filled(500, 500)
	want, _, _ := impl.Create(s, "k/0600", "new")
	random := rand.New(rand.NewSource(14))
	list := make([]cmd, 200)
	for i := range list {
		list[i] = create(numberedKeys(300)[random.Intn(300)], "d")
	}
	played, codes := plays(t, list)
	var running sync.WaitGroup
	for range 8 {
		running.Go(func() {
			for range 20 {
				if next, ver, code := impl.Create(s, "k/0600", "new"); !sameStore(next, want) || ver != 9 || code != impl.SoOk {
					t.Errorf("Create: version %d, code %d, %s", ver, code, showStore(next))
				}
				if next, c := impl.StorePlayed(list); !sameStore(next, played) || !slices.Equal(c, codes) {
					t.Errorf("StorePlayed: %s", showStore(next))
				}
			}
		})
	}
	running.Wait()
}
