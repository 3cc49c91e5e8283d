package tests

import (
	"slices"
	"testing"
)

// behind returns l with spare capacity that holds filler, and the whole array.
func behind[T any](l []T, filler T) (list []T, whole []T) {
	whole = append(slices.Clone(l), filler, filler, filler)
	return whole[:len(l)], whole
}

// keeps fails if call modifies its argument or the spare capacity behind it.
func keeps[T comparable](t *testing.T, name string, l []T, filler T, call func([]T)) {
	t.Helper()
	list, whole := behind(l, filler)
	before := slices.Clone(whole)
	call(list)
	if !slices.Equal(whole, before) {
		t.Errorf("%s modified its argument: %v became %v", name, before, whole)
	}
}

// fresh fails if two calls return lists that share memory, or unequal ones.
func fresh[T comparable](t *testing.T, name string, mark T, call func() []T) {
	t.Helper()
	first, second := call(), call()
	if len(first) == 0 || !slices.Equal(first, second) {
		t.Fatalf("%s: %v, then %v", name, first, second)
	}
	for i := range first {
		first[i] = mark
	}
	if slices.Contains(second, mark) {
		t.Errorf("%s: two results share memory", name)
	}
	if third := call(); !slices.Equal(second, third) {
		t.Errorf("%s: after a write into a result: %v instead of %v", name, third, second)
	}
}

// textsOver returns every string of at most n bytes of the alphabet.
func textsOver(alphabet string, n int) []string {
	all := []string{""}
	for first, length := 0, 0; length < n; length++ {
		last := len(all)
		for _, s := range all[first:last] {
			for i := range len(alphabet) {
				all = append(all, s+alphabet[i:i+1])
			}
		}
		first = last
	}
	return all
}

// near calls check with every string that differs from s by one byte, and
// with every part of s that s begins or ends with.
func near(s string, check func(s string)) {
	for i := range len(s) + 1 {
		check(s[:i])
		check(s[i:])
		for b := range 256 {
			check(s[:i] + string([]byte{byte(b)}) + s[i:])
			if i < len(s) {
				check(s[:i] + string([]byte{byte(b)}) + s[i+1:])
			}
		}
		if i < len(s) {
			check(s[:i] + s[i+1:])
		}
	}
}

// readsOnly fails if, near these texts, a reader accepts a string that is not
// the text of what it returns. Its text is what textOf returns.
func readsOnly[T any](t *testing.T, texts []string, read func(s string) (T, bool), textOf func(T) string, isZero func(T) bool) {
	t.Helper()
	accepted, rejected := 0, 0
	for _, text := range texts {
		near(text, func(s string) {
			value, ok := read(s)
			if ok {
				accepted++
			} else {
				rejected++
			}
			if ok && textOf(value) != s || !ok && !isZero(value) {
				t.Errorf("%q is read as %v, %v", s, value, ok)
			}
		})
	}
	if accepted == 0 || rejected == 0 {
		t.Errorf("%d are accepted, %d rejected", accepted, rejected)
	}
}

// recovers fails if a value has another text than the given one, or is not
// what is read from it.
func recovers[T comparable](t *testing.T, value T, text string, textOf func(T) string, read func(s string) (T, bool)) {
	t.Helper()
	if s := textOf(value); s != text {
		t.Errorf("the text of %.200v is %.200q instead of %.200q", value, s, text)
	}
	if back, ok := read(text); !ok || back != value {
		t.Errorf("%.200q is read as %.200v, %v", text, back, ok)
	}
}

// hasNoText fails if a value that is not valid has a text, or one is read
// from the text that it would have.
func hasNoText[T comparable](t *testing.T, value T, text string, textOf func(T) string, read func(s string) (T, bool)) {
	t.Helper()
	var zero T
	if s := textOf(value); s != "" {
		t.Errorf("the text of %.200v is %.200q", value, s)
	}
	if back, ok := read(text); ok || back != zero {
		t.Errorf("%.200q is read as %.200v, %v", text, back, ok)
	}
}
