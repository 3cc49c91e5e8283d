package tests

import (
	"fmt"
	"math/rand"
	"slices"
	"testing"

	"loop.example/g00703/impl"
)

// keeper plays a history of actions. It knows what the journal contains from
// the actions and their codes alone: the commands that were added, and how
// many of them there were at the last sync, or -1 if there was no log then.
type keeper struct {
	t       *testing.T
	random  *rand.Rand
	d       disk
	log     bool
	added   []cmd
	durable int
	story   string
}

func newKeeper(t *testing.T, random *rand.Rand) *keeper {
	return &keeper{t: t, random: random, durable: -1}
}

func (k *keeper) clone() *keeper {
	other := *k
	other.added = slices.Clone(k.added)
	return &other
}

// survives fails if what a loss of power leaves is not the commands at the last
// sync, followed by a prefix of those that were added since, or if what is
// recovered is not the result of these commands. It returns them, and whether
// there is a log.
func (k *keeper) survives(after disk, how string) ([]cmd, bool) {
	k.t.Helper()
	list, code := impl.StoreView(after)
	if code == impl.StNone && k.durable < 0 {
		return nil, false
	}
	n := len(list)
	if code != impl.StOk || n < k.durable || n > len(k.added) || !slices.Equal(list, k.added[:n]) {
		k.t.Fatalf("after %s and then %s there are %d commands with the code %d, of %d commands and %d at the last sync: %s", k.story, how, n, code, len(k.added), k.durable, showDisk(after))
	}
	want, codes := folded(list)
	if s, c, code := impl.Recovered(after); code != impl.StOk || !slices.Equal(c, codes) || !sameStore(s, want) {
		k.t.Fatalf("after %s and then %s: %d, %v with %s is recovered", k.story, how, code, c, showStore(s))
	}
	return list, true
}

// opened learns what AcOpen has done: with the first Sync, which is the third
// last step, everything is on the disk.
func (k *keeper) opened(a act, was disk) {
	files := folderModelOf(was.Live)
	list, size := logModel(files["log"])
	steps := int64(4)
	if _, found := files["log.new"]; found {
		steps++
	}
	if size < len(files["log"]) && (a.Power < 0 || a.Power >= steps-2) {
		k.durable = len(list)
	}
}

// learn takes note of an action that had the code StOk or StPower.
func (k *keeper) learn(a act, was disk) {
	enough := func(steps int64) bool { return a.Power < 0 || a.Power >= steps }
	switch {
	case a.Kind == impl.AcOpen:
		k.opened(a, was)
	case a.Kind == impl.AcAdd && enough(1):
		k.added = append(k.added, a.C)
		if a.Sync && enough(2) {
			k.durable = len(k.added)
		}
	case a.Kind == impl.AcNew && enough(1):
		k.log, k.added, k.durable = true, nil, -1
		if enough(2) {
			k.durable = 0
		}
	}
}

// lost takes note of a loss of power.
func (k *keeper) lost(a act, how string) {
	after, ok := impl.Crash(k.d, a.Keep, a.Torn)
	if !ok {
		k.t.Fatalf("Crash of %s with %v, %d is false", showDisk(k.d), a.Keep, a.Torn)
	}
	k.added, k.log = k.survives(after, how)
	k.durable = len(k.added)
	if !k.log {
		k.durable = -1
	}
}

func (k *keeper) perform(a act) {
	k.t.Helper()
	next, code := acts(k.t, k.d, a)
	how := fmt.Sprint(showAct(a), " with the code ", code)
	switch {
	case a.Kind == impl.AcCrash && code != impl.StForm:
		k.lost(a, how)
	case code == impl.StOk || code == impl.StPower:
		k.learn(a, k.d)
	}
	k.d = next
	k.story += how + "; "
	list, viewed := impl.StoreView(k.d)
	if k.log != (viewed == impl.StOk) || !slices.Equal(list, k.added) {
		k.t.Fatalf("after %s there are %d commands with the code %d instead of %d", k.story, len(list), viewed, len(k.added))
	}
}

// losses returns operations that may be kept: every choice if there are few,
// otherwise some, among them all and none.
func (k *keeper) losses() [][]int64 {
	n := len(k.d.Ops)
	if n <= 4 {
		return choices(n)
	}
	l := [][]int64{nil, nil}
	for i := range n {
		l[1] = append(l[1], int64(i))
	}
	for range 12 {
		var keep []int64
		for i := range n {
			if k.random.Intn(4) > 0 {
				keep = append(keep, int64(i))
			}
		}
		l = append(l, keep)
	}
	return l
}

// endures fails if a loss of power at this time, with any choice of what is
// kept, and torn at any length, breaks promise 12. It calls further with what
// it leaves.
func (k *keeper) endures(further func(after disk, keep []int64, torn int64)) {
	k.t.Helper()
	for _, keep := range k.losses() {
		for _, torn := range tears(k.d, keep) {
			after, ok := impl.Crash(k.d, keep, torn)
			if !ok {
				k.t.Fatalf("Crash of %s with %v, %d is false", showDisk(k.d), keep, torn)
			}
			k.survives(after, fmt.Sprint("Crash with ", keep, ", ", torn))
			further(after, keep, torn)
		}
	}
}

func nothingMore(disk, []int64, int64) {}

// Histories of random actions, with a loss of power after each action. An
// action with little power ends between two of its steps.
func TestJournalHistories(t *testing.T) {
	random := rand.New(rand.NewSource(27))
	most := 0
	for range 100 {
		k := newKeeper(t, random)
		for range 40 {
			a := randomAct(random, len(k.d.Ops))
			if a.Kind == impl.AcCrash && random.Intn(2) == 0 {
				a = opening()
			}
			k.perform(a)
			k.endures(nothingMore)
			most = max(most, len(k.added))
		}
	}
	if most < 5 {
		t.Errorf("no journal has more than %d commands", most)
	}
}

// Power is lost at every step of an action, and then, with each choice of what
// is kept, at every step of what makes the journal good again.
func TestLossesOfPowerInARow(t *testing.T) {
	random := rand.New(rand.NewSource(28))
	c := put("a", 1, "z")
	for _, a := range []act{newLog(), adding(c, false), adding(c, true), opening()} {
		for _, start := range [][]act{
			{},
			{newLog()},
			{powered(newLog(), 1)},
			{newLog(), adding(create("a", "x"), true), adding(create("b", ""), false)},
			{powered(newLog(), 1), adding(create("a", "x"), false), adding(create("b", ""), false)},
			{newLog(), adding(create("a", "x"), true), adding(c, false), powered(crashing([]int64{0}, 9), 0)},
			{newLog(), adding(create("a", "x"), true), adding(c, false), powered(crashing([]int64{0}, 9), 1)},
			{newLog(), adding(create("a", "x"), true), adding(c, false), powered(crashing([]int64{0}, 9), 2)},
			{newLog(), adding(create("a", "x"), true), adding(c, false), powered(crashing([]int64{0}, 9), 3)},
			{newLog(), adding(create("a", "x"), false), adding(c, false), adding(c, false), powered(crashing([]int64{0, 2}, 99), 3), adding(del("a", 1), false)},
		} {
			for power := int64(0); power < 7; power++ {
				k := newKeeper(t, random)
				for _, first := range start {
					k.perform(first)
				}
				k.perform(powered(a, power))
				k.endures(func(after disk, keep []int64, torn int64) {
					if torn%7 < 2 {
						losesAgain(k.clone(), keep, torn)
					}
				})
			}
		}
	}
}

// losesAgain loses power at each step of AcOpen, after AcCrash, and again with
// each choice of what is kept. Whatever the first loss has left is on the
// disk, so no other one takes anything away, and then commands can be added.
func losesAgain(k *keeper, keep []int64, torn int64) {
	k.t.Helper()
	for power := int64(0); power < 6; power++ {
		second := k.clone()
		second.perform(powered(crashing(keep, torn), power))
		if !second.log {
			second.perform(newLog())
			continue
		}
		if second.durable != len(second.added) {
			k.t.Fatalf("after %s, %d of %d commands were synced", second.story, second.durable, len(second.added))
		}
		second.endures(nothingMore)
		third := second.clone()
		third.perform(opening())
		before := len(third.added)
		third.perform(adding(create("c", "w"), false))
		if third.endures(nothingMore); len(third.added) != before+1 {
			k.t.Fatalf("after %s there are %d commands instead of %d", third.story, len(third.added), before+1)
		}
	}
}

// A journal whose log could be made good but for the last Sync goes on: what
// is added then is lost if the rename is, but nothing else is.
func TestAddAfterUnsyncedRename(t *testing.T) {
	k := newKeeper(t, rand.New(rand.NewSource(29)))
	for _, a := range []act{newLog(), adding(create("a", "x"), true), adding(create("b", ""), false), powered(crashing([]int64{0}, 9), 3), adding(create("c", ""), false)} {
		k.perform(a)
	}
	if len(k.d.Ops) != 2 || len(k.added) != 2 || k.durable != 1 {
		t.Fatalf("%d commands, %d of them synced: %s", len(k.added), k.durable, showDisk(k.d))
	}
	k.endures(nothingMore)
	for _, r := range []struct {
		keep []int64
		want []cmd
	}{{nil, k.added[:1]}, {[]int64{0}, k.added[:1]}, {[]int64{1}, k.added[:1]}, {[]int64{0, 1}, k.added}} {
		views(t, actsWith(t, k.d, crashing(r.keep, whole), impl.StOk), r.want...)
	}
}

// After a Sync, no loss of power takes away a command.
func TestSyncedCommandsStay(t *testing.T) {
	list := manyCmds(12)
	k := newKeeper(t, rand.New(rand.NewSource(30)))
	k.perform(newLog())
	for n, c := range list {
		k.perform(adding(c, n%3 == 2))
		if want := (n + 1) / 3 * 3; k.durable != want || len(k.added) != n+1 {
			t.Fatalf("%d of %d commands are synced instead of %d of %d", k.durable, len(k.added), want, n+1)
		}
		k.endures(func(after disk, keep []int64, torn int64) {
			want := k.durable
			for i, at := range keep {
				if at == int64(i) && (i+1 < len(keep) || torn >= int64(len(k.d.Ops[at].Data))) {
					want++
				}
			}
			views(t, after, list[:want]...)
		})
	}
}
