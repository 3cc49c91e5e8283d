package impl

import "strings"

const (
	MaxParts = 3
	MaxWords = 20
	MaxLines = 10
	MaxLine  = 200
)

const (
	hashStart uint32 = 2166136261
	hashPrime uint32 = 16777619
)

// HashOf computes in uint32, whose multiplication is the one modulo 2^32.
func HashOf(s string) int64 {
	hash := hashStart
	for i := 0; i < len(s); i++ {
		hash ^= uint32(s[i])
		hash *= hashPrime
	}
	return int64(hash)
}

func PartOf(s string, parts int64) int64 {
	if parts < 1 || parts > MaxParts {
		return -1
	}
	return HashOf(s) % parts
}

// WordsOf splits at byte 32 only, so the library's Fields, which splits at
// every kind of white space, does not serve here.
func WordsOf(line string) []string {
	var words []string
	start := 0
	for i := 0; i <= len(line) && len(words) < MaxWords; i++ {
		if i < len(line) && line[i] != ' ' {
			continue
		}
		if start < i {
			words = append(words, line[start:i])
		}
		start = i + 1
	}
	return words
}

func LinesOf(text string) ([]string, bool) {
	var lines []string
	for text != "" {
		line, rest, ended := strings.Cut(text, "\n")
		if !ended || len(line) > MaxLine || len(lines) == MaxLines {
			return nil, false
		}
		lines = append(lines, line)
		text = rest
	}
	return lines, true
}

// LinesText refuses a line with a newline in it, as LinesOf would return
// two lines in its place.
func LinesText(l []string) (string, bool) {
	if len(l) > MaxLines {
		return "", false
	}
	text := ""
	for _, line := range l {
		if len(line) > MaxLine || strings.Contains(line, "\n") {
			return "", false
		}
		text += line + "\n"
	}
	return text, true
}
