package tests

import (
	"slices"
	"testing"
)

// behind returns l with spare capacity that holds filler, and the whole array.
func behind[T any](l []T, filler T) (list []T, whole []T) {
	whole = append(slices.Clone(l), filler, filler, filler)
	return whole[:len(l)], whole
}

// keeps fails if call modifies its argument or the spare capacity behind it.
func keeps[T comparable](t *testing.T, name string, l []T, filler T, call func([]T)) {
	t.Helper()
	list, whole := behind(l, filler)
	before := slices.Clone(whole)
	call(list)
	if !slices.Equal(whole, before) {
		t.Errorf("%s modified its argument: %v became %v", name, before, whole)
	}
}

// fresh fails if two calls return lists that share memory, or unequal ones.
func fresh[T comparable](t *testing.T, name string, mark T, call func() []T) {
	t.Helper()
	first, second := call(), call()
	if len(first) == 0 || !slices.Equal(first, second) {
		t.Fatalf("%s: %v, then %v", name, first, second)
	}
	for i := range first {
		first[i] = mark
	}
	if slices.Contains(second, mark) {
		t.Errorf("%s: two results share memory", name)
	}
	if third := call(); !slices.Equal(second, third) {
		t.Errorf("%s: after a write into a result: %v instead of %v", name, third, second)
	}
}

// textsOver returns every string of at most n bytes of the alphabet.
func textsOver(alphabet string, n int) []string {
	all := []string{""}
	for first, length := 0, 0; length < n; length++ {
		last := len(all)
		for _, s := range all[first:last] {
			for i := range len(alphabet) {
				all = append(all, s+alphabet[i:i+1])
			}
		}
		first = last
	}
	return all
}
