package impl

import "sort"

const (
	MaxKey  = 40
	MaxRecs = 600
)

// wordBytes is the number of bytes of N in the bytes of a run.
const wordBytes = 8

type Rec struct {
	Key string
	N   int64
}

// recOrder is a list of valid records in the order of runs.
type recOrder []Rec

func (l recOrder) Len() int           { return len(l) }
func (l recOrder) Less(i, j int) bool { return RecLess(l[i], l[j]) }
func (l recOrder) Swap(i, j int)      { l[i], l[j] = l[j], l[i] }

func RecOk(r Rec) bool { return len(r.Key) <= MaxKey }

func RecLess(a Rec, b Rec) bool {
	if !RecOk(a) || !RecOk(b) {
		return false
	}
	if a.Key != b.Key {
		return a.Key < b.Key
	}
	return a.N < b.N
}

// recsOk reports whether a run with these records exists, in whatever order
// they are given.
func recsOk(l []Rec) bool {
	if len(l) > MaxRecs {
		return false
	}
	for _, r := range l {
		if !RecOk(r) {
			return false
		}
	}
	return true
}

// RunOk does not leave invalid records to the order: RecLess is false for
// them, so they are never out of order.
func RunOk(l []Rec) bool {
	return recsOk(l) && sort.IsSorted(recOrder(l))
}

func Sorted(l []Rec) []Rec {
	if !recsOk(l) {
		return nil
	}
	run := make([]Rec, len(l))
	copy(run, l)
	sort.Sort(recOrder(run))
	return run
}

// runWriter writes at a position in bytes that are as many as will be written.
type runWriter struct {
	bytes []byte
	at    int
}

func (w *runWriter) putByte(b byte) {
	w.bytes[w.at] = b
	w.at++
}

func (w *runWriter) putRec(r Rec) {
	w.putByte(byte(len(r.Key)))
	w.at += copy(w.bytes[w.at:], r.Key)
	word := uint64(r.N)
	for i := 0; i < wordBytes; i++ {
		w.putByte(byte(word))
		word >>= 8
	}
}

func RunBytes(l []Rec) string {
	if !RunOk(l) {
		return ""
	}
	size := 0
	for _, r := range l {
		size += 1 + len(r.Key) + wordBytes
	}
	w := runWriter{bytes: make([]byte, size)}
	for _, r := range l {
		w.putRec(r)
	}
	return string(w.bytes)
}

// runReader reads at a position in the bytes of a run.
type runReader struct {
	bytes string
	at    int
}

func (r *runReader) more() bool { return r.at < len(r.bytes) }

// takeRec is called only if there are more bytes.
func (r *runReader) takeRec() (Rec, bool) {
	keyAt := r.at + 1
	wordAt := keyAt + int(r.bytes[r.at])
	if len(r.bytes)-wordAt < wordBytes {
		return Rec{}, false
	}
	word := uint64(0)
	for i := wordBytes - 1; i >= 0; i-- {
		word = word<<8 | uint64(r.bytes[wordAt+i])
	}
	r.at = wordAt + wordBytes
	return Rec{Key: r.bytes[keyAt:wordAt], N: int64(word)}, true
}

// ReadRun leaves to RunOk whether the records are valid and in order, but
// stops at the first one too many, so that a long string costs no more.
func ReadRun(s string) ([]Rec, bool) {
	var run []Rec
	r := runReader{bytes: s}
	for r.more() {
		rec, ok := r.takeRec()
		if !ok || len(run) == MaxRecs {
			return nil, false
		}
		run = append(run, rec)
	}
	if !RunOk(run) {
		return nil, false
	}
	return run, true
}

func KeysOf(l []Rec) []string {
	if !RunOk(l) {
		return nil
	}
	var keys []string
	for i, r := range l {
		if i == 0 || r.Key != l[i-1].Key {
			keys = append(keys, r.Key)
		}
	}
	return keys
}

func FindRec(l []Rec, key string) (int64, bool) {
	if !RunOk(l) {
		return 0, false
	}
	for _, r := range l {
		if r.Key == key {
			return r.N, true
		}
	}
	return 0, false
}
