package tests

import (
	"hash/fnv"
	"math"
	"slices"
	"strings"
	"testing"

	"loop.example/g00703/impl"
)

// byteTexts are texts of every byte, of no byte, and of many.
func byteTexts() []string {
	all := []string{"", "a", "foobar", "the cat", "\n", "\x00\x00", "\xff\xff\xff", strings.Repeat("\x80", 1000)}
	for b := range 256 {
		all = append(all, string([]byte{byte(b)}), "x"+string([]byte{byte(b)}))
	}
	return all
}

func TestWordLimits(t *testing.T) {
	if impl.MaxParts != 3 || impl.MaxWords != 20 || impl.MaxLines != 10 || impl.MaxLine != 200 {
		t.Error("a limit is not the document's")
	}
}

func TestHashOf(t *testing.T) {
	for _, r := range []struct {
		s    string
		hash int64
	}{
		{"", 2166136261},
		{"a", 0xe40c292c},
		{"b", 0xe70c2de5},
		{"foobar", 0xbf9cf968},
	} {
		if hash := impl.HashOf(r.s); hash != r.hash {
			t.Errorf("HashOf(%q) = %d, not %d", r.s, hash, r.hash)
		}
	}
	for _, s := range byteTexts() {
		h := fnv.New32a()
		h.Write([]byte(s))
		if hash := impl.HashOf(s); hash != int64(h.Sum32()) {
			t.Errorf("HashOf(%q) = %d, not %d", s, hash, h.Sum32())
		}
	}
}

// Promise 1: every text belongs to one part for each number of parts.
func TestPartOf(t *testing.T) {
	if p := impl.PartOf("a", 1); p != 0 {
		t.Errorf("PartOf(a, 1) = %d", p)
	}
	for parts := int64(1); parts <= impl.MaxParts; parts++ {
		used := map[int64]bool{}
		for _, s := range byteTexts() {
			p := impl.PartOf(s, parts)
			if p < 0 || p >= parts || p != impl.HashOf(s)%parts || p != impl.PartOf(s, parts) {
				t.Errorf("PartOf(%q, %d) = %d", s, parts, p)
			}
			used[p] = true
		}
		if int64(len(used)) != parts {
			t.Errorf("of %d parts, only %v are used", parts, used)
		}
	}
	for _, parts := range []int64{0, -1, -3, 4, 1 << 32, math.MinInt64, math.MaxInt64} {
		for _, s := range []string{"", "a", "\xff"} {
			if p := impl.PartOf(s, parts); p != -1 {
				t.Errorf("PartOf(%q, %d) = %d", s, parts, p)
			}
		}
	}
}

func TestWordsOf(t *testing.T) {
	for _, r := range []struct {
		line  string
		words []string
	}{
		{"  the  cat\tx ", []string{"the", "cat\tx"}},
		{"", nil},
		{" ", nil},
		{"     ", nil},
		{"a", []string{"a"}},
		{" a", []string{"a"}},
		{"a ", []string{"a"}},
		{"a b", []string{"a", "b"}},
		{"b  a   b", []string{"b", "a", "b"}},
		{"a\nb\r c\x00d\v\f", []string{"a\nb\r", "c\x00d\v\f"}},
		{"\xff\x80 \xa0\x85 \u00a0\u2003x", []string{"\xff\x80", "\xa0\x85", "\u00a0\u2003x"}},
		{strings.Repeat("x", 5000) + " y", []string{strings.Repeat("x", 5000), "y"}},
	} {
		if words := impl.WordsOf(r.line); !slices.Equal(words, r.words) {
			t.Errorf("WordsOf(%q) = %q, not %q", r.line, words, r.words)
		}
	}
}

func TestWordsOfLimit(t *testing.T) {
	var words []string
	for i := range impl.MaxWords + 5 {
		words = append(words, string(rune('a'+i)))
	}
	for n := range len(words) + 1 {
		want := words[:min(n, impl.MaxWords)]
		for _, between := range []string{" ", "   "} {
			line := strings.Join(words[:n], between)
			for _, s := range []string{line, " " + line, line + "  "} {
				if got := impl.WordsOf(s); !slices.Equal(got, want) {
					t.Errorf("WordsOf(%q) = %q", s, got)
				}
			}
		}
	}
}

func TestLinesOf(t *testing.T) {
	for _, r := range []struct {
		text  string
		lines []string
	}{
		{"a\n\nb c\n", []string{"a", "", "b c"}},
		{"", nil},
		{"\n", []string{""}},
		{"\n\n", []string{"", ""}},
		{" \n", []string{" "}},
		{"a\r\n\rb\n", []string{"a\r", "\rb"}},
		{"\xff\x80\x00\n\u0085\u2028\n", []string{"\xff\x80\x00", "\u0085\u2028"}},
		{strings.Repeat("\n", impl.MaxLines), make([]string, impl.MaxLines)},
		{strings.Repeat("x", impl.MaxLine) + "\n", []string{strings.Repeat("x", impl.MaxLine)}},
		{"a\n" + strings.Repeat("\xff", impl.MaxLine) + "\n", []string{"a", strings.Repeat("\xff", impl.MaxLine)}},
	} {
		lines, ok := impl.LinesOf(r.text)
		if !ok || !slices.Equal(lines, r.lines) {
			t.Errorf("LinesOf(%q) = %q, %v", r.text, lines, ok)
		}
		if text, ok := impl.LinesText(r.lines); !ok || text != r.text {
			t.Errorf("LinesText(%q) = %q, %v", r.lines, text, ok)
		}
	}
}

func TestLinesOfRejects(t *testing.T) {
	long := strings.Repeat("x", impl.MaxLine+1)
	for _, text := range []string{
		"a",
		" ",
		"a\nb",
		"\n\nb",
		strings.Repeat("\n", impl.MaxLines+1),
		strings.Repeat("a\n", impl.MaxLines+1),
		strings.Repeat("a\n", impl.MaxLines) + "a",
		strings.Repeat("\n", 100000),
		long + "\n",
		long,
		"a\n" + long + "\n",
		long + "\na\n",
		strings.Repeat("\xff", impl.MaxLine+1) + "\n",
	} {
		if lines, ok := impl.LinesOf(text); ok || len(lines) != 0 {
			t.Errorf("LinesOf(%.50q) = %q, %v", text, lines, ok)
		}
	}
}

func TestLinesText(t *testing.T) {
	if text, ok := impl.LinesText([]string{"a", ""}); !ok || text != "a\n\n" {
		t.Errorf("%q, %v", text, ok)
	}
	if text, ok := impl.LinesText(nil); !ok || text != "" {
		t.Errorf("no lines: %q, %v", text, ok)
	}
	if text, ok := impl.LinesText([]string{}); !ok || text != "" {
		t.Errorf("an empty list: %q, %v", text, ok)
	}
	long := strings.Repeat("x", impl.MaxLine+1)
	for _, l := range [][]string{
		{"a\nb"},
		{"\n"},
		{"a\n"},
		{"\na"},
		{"a", "b\n"},
		{"a\n", "b"},
		{strings.Repeat("x", impl.MaxLine-1) + "\nx"},
		make([]string, impl.MaxLines+1),
		make([]string, 1000),
		{long},
		{"a", long},
		{long, "a"},
	} {
		if text, ok := impl.LinesText(l); ok || text != "" {
			t.Errorf("LinesText(%.50q) = %q, %v", l, text, ok)
		}
	}
}

// Promise 1: lines are recovered from their text, and the text from its lines.
func TestLinesAreRecovered(t *testing.T) {
	for _, text := range textsOver("a \n", 7) {
		lines, ok := impl.LinesOf(text)
		if ok != (text == "" || strings.HasSuffix(text, "\n")) {
			t.Errorf("LinesOf(%q) = %q, %v", text, lines, ok)
		}
		if back, again := impl.LinesText(lines); ok && (!again || back != text) {
			t.Errorf("LinesText of LinesOf(%q) = %q, %v", text, back, again)
		}
	}
	items := []string{"", "a", "\xff\x00 b\r", "a\nb", "\n", strings.Repeat("y", impl.MaxLine), strings.Repeat("y", impl.MaxLine+1)}
	for _, pick := range textsOver("\x00\x01\x02\x03\x04\x05\x06", 4) {
		var l []string
		fits := true
		for i := range len(pick) {
			item := items[pick[i]]
			l = append(l, item)
			fits = fits && !strings.Contains(item, "\n") && len(item) <= impl.MaxLine
		}
		text, ok := impl.LinesText(l)
		if ok != fits {
			t.Errorf("LinesText(%.20q) is %v", l, ok)
		}
		if back, again := impl.LinesOf(text); ok && (!again || !slices.Equal(back, l)) {
			t.Errorf("LinesOf of LinesText(%.20q) = %.20q, %v", l, back, again)
		}
	}
	for n := range impl.MaxLines + 3 {
		l := slices.Repeat([]string{"x"}, n)
		text, ok := impl.LinesText(l)
		back, again := impl.LinesOf(strings.Repeat("x\n", n))
		if fits := n <= impl.MaxLines; ok != fits || again != fits || fits && (text != strings.Repeat("x\n", n) || !slices.Equal(back, l)) {
			t.Errorf("%d lines: %q, %v and %q, %v", n, text, ok, back, again)
		}
	}
}

func TestWordsMemory(t *testing.T) {
	for _, l := range [][]string{{"a", ""}, {"a\nb", "c"}, make([]string, impl.MaxLines+1)} {
		keeps(t, "LinesText", l, "spare", func(l []string) { impl.LinesText(l) })
	}
	fresh(t, "WordsOf", "mark", func() []string { return impl.WordsOf(" a b a ") })
	fresh(t, "LinesOf", "mark", func() []string {
		l, _ := impl.LinesOf("a\n\nb c\n")
		return l
	})
}
