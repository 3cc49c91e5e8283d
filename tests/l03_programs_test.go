package tests

import (
	"fmt"
	"math"
	"math/big"
	"math/rand"
	"regexp"
	"slices"
	"strings"
	"testing"

	"loop.example/g00703/impl"
)

type instr = impl.Instr

// prog returns the program with a text.
func prog(t *testing.T, text string) []instr {
	t.Helper()
	p, ok := impl.ReadProg(text)
	if !ok {
		t.Fatalf("ReadProg(%q) is false", text)
	}
	return p
}

// emits fails if the program with a text does not emit these records.
func emits(t *testing.T, text string, words []string, want ...rec) {
	t.Helper()
	l, code := impl.Eval(prog(t, text), words)
	if code != impl.EvOk || !slices.Equal(l, want) {
		t.Errorf("Eval(%q, %.100q) = %s, %d, not %s", text, words, show(l...), code, show(want...))
	}
}

// fails fails if the evaluation has another code, or records.
func fails(t *testing.T, p []instr, words []string, want int64) {
	t.Helper()
	l, code := impl.Eval(p, words)
	if code != want || len(l) != 0 {
		t.Errorf("Eval(%v, %.100q) = %s, %d, not %d", p, words, show(l...), code, want)
	}
}

// value is a text or a number on the stack of model.
type value struct {
	isText bool
	text   string
	num    *big.Int
}

var (
	modulus     = new(big.Int).Lsh(big.NewInt(1), 64)
	decimalForm = regexp.MustCompile(`\A(0|-?[1-9][0-9]{0,18})\z`)
)

func textValue(s string) value { return value{isText: true, text: s} }

// numValue brings n into the range of int64, modulo 2^64.
func numValue(n *big.Int) value {
	n = new(big.Int).Mod(n, modulus)
	if n.Bit(63) == 1 {
		n.Sub(n, modulus)
	}
	return value{num: n}
}

func boolValue(b bool) value {
	if b {
		return numValue(big.NewInt(1))
	}
	return numValue(new(big.Int))
}

func decimalValue(s string) value {
	n, ok := new(big.Int).SetString(s, 10)
	if !ok || !decimalForm.MatchString(s) || !n.IsInt64() {
		return numValue(new(big.Int))
	}
	return numValue(n)
}

// computed is what an instruction without a field pushes.
func computed(op int64, v []value) value {
	switch op {
	case impl.PxCat:
		return textValue(v[0].text + v[1].text)
	case impl.PxLen:
		return numValue(big.NewInt(int64(len(v[0].text))))
	case impl.PxInt:
		return decimalValue(v[0].text)
	case impl.PxStr:
		return textValue(v[0].num.String())
	case impl.PxAdd:
		return numValue(new(big.Int).Add(v[0].num, v[1].num))
	case impl.PxSub:
		return numValue(new(big.Int).Sub(v[0].num, v[1].num))
	case impl.PxMul:
		return numValue(new(big.Int).Mul(v[0].num, v[1].num))
	case impl.PxLess:
		return boolValue(v[0].num.Cmp(v[1].num) < 0)
	}
	return boolValue(v[0].text == v[1].text)
}

// operands are the types of the operands of each op, as the document has them.
var operands = map[int64]string{
	impl.PxField: "", impl.PxText: "", impl.PxNum: "",
	impl.PxCat: "TT", impl.PxLen: "T", impl.PxInt: "T", impl.PxStr: "N",
	impl.PxAdd: "NN", impl.PxSub: "NN", impl.PxMul: "NN", impl.PxLess: "NN", impl.PxSame: "TT",
	impl.PxEmit: "TN", impl.PxEmitIf: "TNN",
}

// model executes valid instructions on one stack of values. It returns false
// if an operand is missing or of the wrong type, or a value remains.
func model(p []instr, words []string) (out []rec, long bool, ok bool) {
	var stack []value
	for _, in := range p {
		types := operands[in.Op]
		if len(stack) < len(types) {
			return nil, false, false
		}
		v := stack[len(stack)-len(types):]
		for i := range v {
			if v[i].isText != (types[i] == 'T') {
				return nil, false, false
			}
		}
		stack = stack[:len(stack)-len(types)]
		switch in.Op {
		case impl.PxField:
			word := ""
			if in.N < int64(len(words)) {
				word = words[in.N]
			}
			stack = append(stack, textValue(word))
		case impl.PxText:
			stack = append(stack, textValue(in.S))
		case impl.PxNum:
			stack = append(stack, numValue(big.NewInt(in.N)))
		case impl.PxEmit, impl.PxEmitIf:
			if in.Op == impl.PxEmit || v[2].num.Sign() != 0 {
				out = append(out, rec{Key: v[0].text, N: v[1].num.Int64()})
			}
		default:
			stack = append(stack, computed(in.Op, v))
		}
		if n := len(stack); n > 0 && len(stack[n-1].text) > 40 {
			long = true
		}
	}
	if len(stack) > 0 {
		return nil, false, false
	}
	if long {
		out = nil
	}
	return out, long, true
}

// agrees fails if ProgOk or Eval differs from the model.
func agrees(t *testing.T, p []instr, words []string) (isProg bool) {
	t.Helper()
	out, long, ok := model(p, words)
	want := int64(impl.EvOk)
	if !ok {
		want = impl.EvForm
	} else if long {
		want = impl.EvLong
	}
	if impl.ProgOk(p) != ok {
		t.Fatalf("ProgOk(%v) is %v", p, !ok)
	}
	l, code := impl.Eval(p, words)
	if code != want || !slices.Equal(l, out) {
		t.Fatalf("Eval(%v, %.100q) = %s, %d, not %s, %d", p, words, show(l...), code, show(out...), want)
	}
	return ok
}

// anyInstrs has one instruction of each op.
func anyInstrs() []instr {
	l := []instr{{Op: impl.PxField, N: 0}, {Op: impl.PxText, S: "7"}, {Op: impl.PxNum, N: -3}}
	for op := int64(impl.PxCat); op <= impl.PxEmitIf; op++ {
		l = append(l, instr{Op: op})
	}
	return l
}

// randomProg returns a program of at most n instructions.
func randomProg(random *rand.Rand, n int) []instr {
	texts := []string{"", "x", "-3", "0", "-0", "9223372036854775807", "~!", "abcdefghijabcdefghij"}
	nums := []int64{0, 1, -1, 2, 10, math.MaxInt64, math.MinInt64, 1 << 32, -(1 << 31)}
	// Those that empty the stack are there more often, so that it gets empty.
	ops := append(anyInstrs(), slices.Repeat(anyInstrs()[12:], 4)...)
	for {
		var p []instr
		stack := ""
		for len(p) < n {
			in := ops[random.Intn(len(ops))]
			types := operands[in.Op]
			if !strings.HasSuffix(stack, types) {
				continue
			}
			stack = strings.TrimSuffix(stack, types)
			switch in.Op {
			case impl.PxField:
				in.N = random.Int63n(5)
				stack += "T"
			case impl.PxText:
				in.S = texts[random.Intn(len(texts))]
				stack += "T"
			case impl.PxNum:
				in.N = nums[random.Intn(len(nums))]
				stack += "N"
			case impl.PxCat, impl.PxStr:
				stack += "T"
			case impl.PxEmit, impl.PxEmitIf:
			default:
				stack += "N"
			}
			p = append(p, in)
			if stack == "" && random.Intn(3) == 0 {
				return p
			}
		}
	}
}

func TestProgramConstants(t *testing.T) {
	if impl.MaxProg != 30 || impl.EvOk != 0 || impl.EvForm != 1 || impl.EvLong != 2 {
		t.Error("a limit or a code is not the document's")
	}
	ops := []int64{impl.PxField, impl.PxText, impl.PxNum, impl.PxCat, impl.PxLen, impl.PxInt, impl.PxStr, impl.PxAdd, impl.PxSub, impl.PxMul, impl.PxLess, impl.PxSame, impl.PxEmit, impl.PxEmitIf}
	for i, op := range ops {
		if op != int64(i)+1 {
			t.Errorf("op %d is %d", i+1, op)
		}
	}
}

// Each instruction of these is followed by what makes a program of it.
func TestInstructions(t *testing.T) {
	one, emit := instr{Op: impl.PxNum, N: 1}, instr{Op: impl.PxEmit}
	end := map[byte][]instr{'T': {one, emit}, 'N': {{Op: impl.PxStr}, one, emit}}
	before := map[string]string{"": "", "T": "t:a", "N": "n1", "TT": "t:a t:b", "NN": "n1 n2", "TN": "t:a n1", "TNN": "t:a n1 n2"}
	gives := "-TTNTNNTNNNNN--"
	whole := func(in instr) []instr {
		var p []instr
		for _, word := range strings.Fields(before[operands[in.Op]]) {
			if s, ok := strings.CutPrefix(word, "t:"); ok {
				p = append(p, instr{Op: impl.PxText, S: s})
			} else {
				p = append(p, instr{Op: impl.PxNum, N: int64(word[1] - '0')})
			}
		}
		p = append(p, in)
		if in.Op >= 1 && in.Op <= 14 {
			p = append(p, end[gives[in.Op]]...)
		}
		return p
	}
	valid := append(anyInstrs(), instr{Op: impl.PxField, N: 19}, instr{Op: impl.PxText}, instr{Op: impl.PxText, S: "!~"}, instr{Op: impl.PxText, S: strings.Repeat("~", 20)},
		instr{Op: impl.PxNum}, instr{Op: impl.PxNum, N: math.MaxInt64}, instr{Op: impl.PxNum, N: math.MinInt64})
	for b := byte(33); b <= 126; b++ {
		valid = append(valid, instr{Op: impl.PxText, S: string(rune(b))})
	}
	for _, in := range valid {
		if p := whole(in); !impl.ProgOk(p) {
			t.Errorf("ProgOk(%v) is false", p)
		}
	}
	invalid := []instr{{Op: impl.PxField, N: -1}, {Op: impl.PxField, N: 20}, {Op: impl.PxField, N: 1 << 32}, {Op: impl.PxField, N: math.MinInt64}, {Op: impl.PxField, S: "a"},
		{Op: impl.PxText, N: 1}, {Op: impl.PxText, S: "a", N: -1}, {Op: impl.PxText, S: strings.Repeat("a", 21)}, {Op: impl.PxText, S: strings.Repeat("a", 100000)}, {Op: impl.PxText, S: "a b"}, {Op: impl.PxText, S: "ab "}, {Op: impl.PxText, S: "\u00e9"},
		{Op: impl.PxNum, S: "x"}, {Op: impl.PxNum, N: 1, S: "1"}}
	for op := int64(impl.PxCat); op <= impl.PxEmitIf; op++ {
		invalid = append(invalid, instr{Op: op, N: 1}, instr{Op: op, N: math.MinInt64}, instr{Op: op, S: "x"})
	}
	for b := range 256 {
		if b < 33 || b > 126 {
			invalid = append(invalid, instr{Op: impl.PxText, S: string([]byte{byte(b)})}, instr{Op: impl.PxText, S: string([]byte{'a', byte(b)})})
		}
	}
	for _, op := range []int64{0, -1, 15, 16, 256 + 1, 1<<32 + 1, math.MinInt64, math.MaxInt64} {
		invalid = append(invalid, instr{Op: op})
	}
	for _, in := range invalid {
		rejectsProg(t, whole(in))
	}
}

// rejectsProg fails if a list of instructions is a program for any function.
func rejectsProg(t *testing.T, p []instr) {
	t.Helper()
	if impl.ProgOk(p) || impl.ProgText(p) != "" {
		t.Errorf("%v is a program, with the text %q", p, impl.ProgText(p))
	}
	fails(t, p, []string{"a"}, impl.EvForm)
	for _, line := range []string{"", "  ", "a b", strings.Repeat("x", 100), strings.Repeat("x", 201)} {
		for _, each := range []bool{false, true} {
			if l, code := impl.EvalLine(p, each, line); code != impl.EvForm || len(l) != 0 {
				t.Errorf("EvalLine(%v, %v, %q) = %s, %d", p, each, line, show(l...), code)
			}
		}
	}
}

func TestProgOkLimit(t *testing.T) {
	three, four := anyProg("t:a n1 emit"), anyProg("f0 n1 n1 emitif")
	for n, p := range map[int][]instr{
		30: slices.Repeat(three, 10),
		28: slices.Repeat(four, 7),
		0:  nil,
	} {
		if len(p) != n || !impl.ProgOk(p) {
			t.Errorf("%d instructions: ProgOk is false", len(p))
		}
	}
	for n, p := range map[int][]instr{
		31:    slices.Concat(slices.Repeat(three, 9), four),
		32:    slices.Repeat(four, 8),
		33:    slices.Repeat(three, 11),
		30000: slices.Repeat(three, 10000),
	} {
		if len(p) != n || impl.ProgOk(p) || impl.ProgText(p) != "" {
			t.Errorf("%d instructions: ProgOk is true", len(p))
		}
		fails(t, p, nil, impl.EvForm)
	}
	at := strings.TrimSuffix(strings.Repeat("t:a n1 emit ", 10), " ")
	if p, ok := impl.ReadProg(at); !ok || len(p) != 30 {
		t.Errorf("ReadProg rejects 30 instructions")
	}
	for _, above := range []string{strings.Repeat("t:a n1 emit ", 9) + "f0 n1 n1 emitif", at + " t:a n1 emit", strings.Repeat("t:a n1 emit ", 9999) + "t:a n1 emit"} {
		if p, ok := impl.ReadProg(above); ok || len(p) != 0 {
			t.Errorf("ReadProg(%.500q) accepts %d instructions", above, len(p))
		}
	}
}

// anyProg reads a program without a test to fail.
func anyProg(text string) []instr {
	p, _ := impl.ReadProg(text)
	return p
}

// Every list of at most five instructions, one of each op, is a program if
// and only if each instruction finds operands of its types and none remains.
func TestStackTypes(t *testing.T) {
	all := [][]instr{nil}
	programs := 0
	words := []string{"-12"}
	for first := 0; len(all[first]) < 4; first++ {
		for _, in := range anyInstrs() {
			all = append(all, append(slices.Clone(all[first]), in))
		}
	}
	for _, p := range all {
		if agrees(t, p, words) {
			programs++
		}
		if len(p) < 4 {
			continue
		}
		for _, last := range anyInstrs() {
			if agrees(t, append(slices.Clone(p), last), words) {
				programs++
			}
		}
	}
	if programs < 50 {
		t.Errorf("only %d programs", programs)
	}
	for _, p := range [][]instr{
		{{Op: impl.PxNum, N: 1}},
		{{Op: impl.PxText, S: "a"}},
		{{Op: impl.PxEmit}},
		{{Op: impl.PxNum, N: 1}, {Op: impl.PxText, S: "a"}, {Op: impl.PxEmit}},
		{{Op: impl.PxText, S: "a"}, {Op: impl.PxText, S: "a"}, {Op: impl.PxEmit}},
		{{Op: impl.PxText, S: "a"}, {Op: impl.PxNum}, {Op: impl.PxEmitIf}},
		{{Op: impl.PxField}, {Op: impl.PxText, S: "a"}, {Op: impl.PxNum}, {Op: impl.PxEmit}},
	} {
		rejectsProg(t, p)
	}
}

// progTexts are texts of programs.
func progTexts() []string {
	return []string{
		"",
		"f0 f1 cat t:x! cat f2 int n-5 mul f3 len emitif",
		"f0 n1 emit",
		"f19 n0 emit",
		"t: n9223372036854775807 emit",
		"t: n-9223372036854775808 emit",
		"t:t: n-1 emit",
		"t:emit n0 emit",
		"t:!\"#$%&'()*+,-./0123 n1 emit",
		"n1 n2 add n3 sub n4 mul n5 less str n6 emit",
		"t:a f3 same str t:b len emit",
		"t:a n1 emit t:b n2 n3 emitif",
		"n1 str int str n2 emit",
		"f1 t:in cat n1 emit",
		strings.TrimSuffix(strings.Repeat("t:abcdefghijabcdefghij n-9223372036854775808 emit ", 10), " "),
	}
}

// Promise 3: a program is recovered from its text.
func TestProgText(t *testing.T) {
	for _, s := range progTexts() {
		p, ok := impl.ReadProg(s)
		if !ok || !impl.ProgOk(p) || impl.ProgText(p) != s {
			t.Errorf("ReadProg(%q) = %v, %v", s, p, ok)
		}
	}
	random := rand.New(rand.NewSource(3))
	for range 3000 {
		p := randomProg(random, 30)
		back, ok := impl.ReadProg(impl.ProgText(p))
		if !ok || !slices.Equal(back, p) {
			t.Errorf("ReadProg of %v = %v, %v", p, back, ok)
		}
	}
	want := []instr{{Op: impl.PxField, N: 0}, {Op: impl.PxField, N: 1}, {Op: impl.PxCat}, {Op: impl.PxText, S: "x!"}, {Op: impl.PxCat}, {Op: impl.PxField, N: 2}, {Op: impl.PxInt}, {Op: impl.PxNum, N: -5}, {Op: impl.PxMul}, {Op: impl.PxField, N: 3}, {Op: impl.PxLen}, {Op: impl.PxEmitIf}}
	if p := prog(t, "f0 f1 cat t:x! cat f2 int n-5 mul f3 len emitif"); !slices.Equal(p, want) {
		t.Errorf("%v", p)
	}
	if p, ok := impl.ReadProg(""); !ok || len(p) != 0 || impl.ProgText(nil) != "" || !impl.ProgOk(nil) {
		t.Errorf("the program without instructions: %v, %v", p, ok)
	}
}

func TestReadProgRejects(t *testing.T) {
	for _, s := range []string{
		"f0 n01 emit", "f0 n1", "n1 n1 emit",
		" ", "  ", " f0 n1 emit", "f0 n1 emit ", "f0  n1 emit", "f0\tn1 emit", "f0 n1 emit\n", "f0\nn1\nemit",
		"emit", "f0 f1 emit", "f0 n1 n1 emit", "f0 n1 emitif", "f0 f0 less f0 n1 emit",
		"f n1 emit", "f20 n1 emit", "f-1 n1 emit", "f-0 n1 emit", "f+1 n1 emit", "f00 n1 emit", "f01 n1 emit", "f 0 n1 emit", "f1x n1 emit", "f18446744073709551616 n1 emit",
		"f0 n emit", "f0 n- emit", "f0 n-0 emit", "f0 n+1 emit", "f0 n00 emit", "f0 n-01 emit", "f0 n1_0 emit", "f0 n0x1 emit", "f0 n1.0 emit", "f0 n1e1 emit", "f0 n9223372036854775808 emit", "f0 n-9223372036854775809 emit", "f0 n18446744073709551617 emit", "f0 n" + strings.Repeat("1", 1000) + " emit", "f0 n\u0661 emit", "f0 n--1 emit",
		"t n1 emit", "t:a b n1 emit", "t:\x7f n1 emit", "t:\x00 n1 emit", "t:\xff n1 emit", "t:\u00e9 n1 emit", "t:abcdefghijabcdefghijk n1 emit", "T:a n1 emit",
		"x0 n1 emit", "f0 n1 Emit", "F0 n1 emit", "f0 n1 emits", "f0 n1 emi", "f0 n1 emitif0", "f0 n1 emit0", "f0 n1 n1 emitifx", "1 emit", "f0 1 emit", "f0 len0 str n1 emit", "f0 n1 13",
	} {
		if p, ok := impl.ReadProg(s); ok || len(p) != 0 {
			t.Errorf("ReadProg(%q) = %v, %v", s, p, ok)
		}
	}
}

// A string that ReadProg accepts is the ProgText of what it returns.
func TestReadProgAcceptsOnlyTexts(t *testing.T) {
	readsOnly(t, progTexts()[:14], impl.ReadProg, impl.ProgText, func(p []instr) bool { return len(p) == 0 })
}

func TestEvalExamples(t *testing.T) {
	words := []string{"a", "b", "7x"}
	emits(t, "f0 f1 cat n-3 str int n2 mul emit", words, rec{Key: "ab", N: -6})
	emits(t, "f5 f0 len f1 len add emit", words, rec{Key: "", N: 2})
	emits(t, "f2 f2 int n5 sub emit", words, rec{Key: "7x", N: -5})
	emits(t, "", words)
	emits(t, "", nil)
	emits(t, "f0 n1 emit", nil, rec{Key: "", N: 1})
}

// number fails if these instructions do not push a number.
func number(t *testing.T, text string, words []string, want int64) {
	t.Helper()
	emits(t, "t:k "+text+" emit", words, rec{Key: "k", N: want})
}

func TestEvalFields(t *testing.T) {
	var words []string
	for i := range 20 {
		words = append(words, fmt.Sprint("w", i))
	}
	for n := range 21 {
		for i := range 20 {
			want := ""
			if i < n {
				want = words[i]
			}
			emits(t, fmt.Sprint("f", i, " n1 emit"), words[:n], rec{Key: want, N: 1})
		}
	}
	emits(t, "f0 n1 emit f1 n2 emit f2 n3 emit", []string{"", "a b", "\xff\n\x00"}, rec{Key: "", N: 1}, rec{Key: "a b", N: 2}, rec{Key: "\xff\n\x00", N: 3})
	fails(t, anyProg("f0 n1 emit"), make([]string, 21), impl.EvForm)
	fails(t, nil, make([]string, 21), impl.EvForm)
	fails(t, anyProg("f0 n1 emit"), slices.Repeat([]string{longKey(41)}, 21), impl.EvForm)
	// Of a list in whose spare capacity there are more words, only the words count.
	emits(t, "f0 n1 emit f1 n1 emit", words[:1:5], rec{Key: "w0", N: 1}, rec{Key: "", N: 1})
}

func TestEvalArithmetic(t *testing.T) {
	nums := []int64{0, 1, -1, 2, -2, 3, 10, 1 << 31, -(1 << 31), 1 << 32, 3037000499, 3037000500, -3037000500, 1 << 62, -(1 << 62), math.MaxInt64 - 1, math.MaxInt64, math.MinInt64 + 1, math.MinInt64}
	for _, a := range nums {
		for _, b := range nums {
			for op, name := range map[int64]string{impl.PxAdd: "add", impl.PxSub: "sub", impl.PxMul: "mul", impl.PxLess: "less"} {
				want := computed(op, []value{numValue(big.NewInt(a)), numValue(big.NewInt(b))}).num.Int64()
				number(t, fmt.Sprint("n", a, " n", b, " ", name), nil, want)
			}
		}
	}
	number(t, "n9223372036854775807 n1 add", nil, math.MinInt64)
	number(t, "n-9223372036854775808 n-1 add", nil, math.MaxInt64)
	number(t, "n-9223372036854775808 n1 sub", nil, math.MaxInt64)
	number(t, "n9223372036854775807 n-1 sub", nil, math.MinInt64)
	number(t, "n0 n-9223372036854775808 sub", nil, math.MinInt64)
	number(t, "n9223372036854775807 n2 mul", nil, -2)
	number(t, "n-9223372036854775808 n2 mul", nil, 0)
	number(t, "n-9223372036854775808 n-1 mul", nil, math.MinInt64)
	number(t, "n4294967296 n4294967296 mul", nil, 0)
	number(t, "n5 n3 sub", nil, 2)
	number(t, "n3 n5 less", nil, 1)
	number(t, "n5 n3 less", nil, 0)
	number(t, "n5 n5 less", nil, 0)
	number(t, "n-9223372036854775808 n9223372036854775807 less", nil, 1)
	number(t, "n9223372036854775807 n-9223372036854775808 less", nil, 0)
}

func TestEvalTexts(t *testing.T) {
	for s, want := range map[string]int64{
		"0": 0, "7": 7, "-7": -7, "10": 10, "-10": -10, "1000000000000000000": 1000000000000000000,
		"9223372036854775807": math.MaxInt64, "-9223372036854775808": math.MinInt64,
		"9223372036854775808": 0, "-9223372036854775809": 0, "10000000000000000000": 0, "18446744073709551617": 0,
		"": 0, "-": 0, "+": 0, "+1": 0, "-0": 0, "+0": 0, "00": 0, "01": 0, "-01": 0, "007": 0, "--1": 0, "1-": 0, "1 ": 0, " 1": 0, "1_0": 0, "0x10": 0, "1e3": 0, "1.0": 0, "7x": 0, "x7": 0, "\u0663": 0, "1\x00": 0,
		"00000000000000000000000000000000000001": 0,
	} {
		number(t, "f0 int", []string{s}, want)
	}
	for _, n := range []int64{0, 7, -7, 10, -10, math.MaxInt64, math.MinInt64} {
		emits(t, fmt.Sprint("n", n, " str n1 emit"), nil, rec{Key: fmt.Sprint(n), N: 1})
		number(t, fmt.Sprint("n", n, " str int"), nil, n)
	}
	number(t, "n-9223372036854775808 str len", nil, 20)
	for s, want := range map[string]int64{"": 0, "a": 1, "\u00e9": 2, "\x00\xff": 2, longKey(40): 40} {
		number(t, "f0 len", []string{s}, want)
	}
	number(t, "f0 f1 same", []string{"a", "a"}, 1)
	number(t, "f0 f1 same", []string{"a", "b"}, 0)
	number(t, "f0 f1 same", []string{"a", "A"}, 0)
	number(t, "f0 f1 same", []string{"a", "a\x00"}, 0)
	number(t, "f0 f1 same", []string{""}, 1)
	emits(t, "f0 f1 cat f2 cat n1 emit", []string{"b", "\xc3", "\xa9"}, rec{Key: "b\u00e9", N: 1})
	emits(t, "f0 f1 f2 cat cat n1 emit", []string{"c", "b", "a"}, rec{Key: "cba", N: 1})
	emits(t, "t: t: cat n1 emit", nil, rec{Key: "", N: 1})
}

func TestEvalEmits(t *testing.T) {
	for _, n := range []int64{1, -1, 2, math.MaxInt64, math.MinInt64, 1 << 32} {
		emits(t, fmt.Sprint("t:a n5 n", n, " emitif"), nil, rec{Key: "a", N: 5})
	}
	emits(t, "t:a n5 n0 emitif", nil)
	emits(t, "t:a n0 n5 emitif", nil, rec{Key: "a", N: 0})
	emits(t, "t:b n2 emit t:a n1 emit t:b n2 emit t:c n0 n0 emitif t:a n-1 emit", nil, rec{Key: "b", N: 2}, rec{Key: "a", N: 1}, rec{Key: "b", N: 2}, rec{Key: "a", N: -1})
	emits(t, "t:b n2 t:a n1 emit emit", nil, rec{Key: "a", N: 1}, rec{Key: "b", N: 2})
	emits(t, "t:b n2 t:a n1 n0 emitif emit", nil, rec{Key: "b", N: 2})
	emits(t, strings.TrimSuffix(strings.Repeat("t:a n1 emit ", 10), " "), nil, slices.Repeat([]rec{{Key: "a", N: 1}}, 10)...)
}

func TestEvalLong(t *testing.T) {
	at, above := longKey(40), longKey(41)
	emits(t, "f0 n1 emit", []string{at}, rec{Key: at, N: 1})
	emits(t, "f0 n1 emit", []string{"a", above}, rec{Key: "a", N: 1})
	emits(t, "f0 f1 cat n1 emit", []string{longKey(20), longKey(20)}, rec{Key: at, N: 1})
	emits(t, "f0 f1 cat n1 emit", []string{"", at}, rec{Key: at, N: 1})
	emits(t, "t:abcdefghijabcdefghij t:abcdefghijabcdefghij cat n1 emit", nil, rec{Key: strings.Repeat("abcdefghij", 4), N: 1})
	for _, r := range []struct {
		text  string
		words []string
	}{
		{"f0 n1 emit", []string{above}},
		{"f0 n1 emit", []string{longKey(100000)}},
		{"f0 len str n1 emit", []string{above}},
		{"f1 n1 n0 emitif", []string{"a", above}},
		{"t:a n1 emit f0 n1 emit", []string{above}},
		{"f0 n1 emit t:a n1 emit", []string{above}},
		{"t:a f0 f0 same emit", []string{above}},
		{"t:a f0 int emit", []string{above}},
		{"f0 f1 cat n1 emit", []string{longKey(20), longKey(21)}},
		{"f0 f1 cat n1 emit", []string{at, "k"}},
		{"f0 f1 cat n1 emit", []string{"k", at}},
		{"t:a f0 f1 cat len emit", []string{at, at}},
		{"t:a n1 emit f0 f0 cat f0 same str n1 n0 emitif", []string{longKey(21)}},
	} {
		fails(t, prog(t, r.text), r.words, impl.EvLong)
	}
}

func TestEvalAgreesWithModel(t *testing.T) {
	random := rand.New(rand.NewSource(4))
	words := []string{"a", "-12", longKey(19), "\xff", longKey(30)}
	long := 0
	for range 20000 {
		p := randomProg(random, 30)
		if !agrees(t, p, words[:random.Intn(len(words)+1)]) {
			t.Fatalf("%v is no program", p)
		}
		if _, code := impl.Eval(p, words); code == impl.EvLong {
			long++
		}
	}
	if long == 0 {
		t.Error("no text was too long")
	}
}

// Promise 3: the concatenation of two programs emits what both emit, unless
// one fails.
func TestConcatenation(t *testing.T) {
	random := rand.New(rand.NewSource(5))
	words := []string{"a", "-12", longKey(19), "\xff", longKey(30)}
	failed := 0
	for range 10000 {
		p, q := randomProg(random, 15), randomProg(random, 15)
		first, code1 := impl.Eval(p, words)
		second, code2 := impl.Eval(q, words)
		both, code := impl.Eval(slices.Concat(p, q), words)
		want, wantCode := slices.Concat(first, second), int64(impl.EvOk)
		if code1 != impl.EvOk || code2 != impl.EvOk {
			want, wantCode = nil, impl.EvLong
			failed++
		}
		if code != wantCode || !slices.Equal(both, want) {
			t.Fatalf("Eval of %v and %v = %s, %d, not %s, %d", p, q, show(both...), code, show(want...), wantCode)
		}
	}
	if failed == 0 || failed == 10000 {
		t.Errorf("%d fail", failed)
	}
}

// line fails if EvalLine does not emit these records.
func line(t *testing.T, text string, each bool, line string, want ...rec) {
	t.Helper()
	l, code := impl.EvalLine(prog(t, text), each, line)
	if code != impl.EvOk || !slices.Equal(l, want) {
		t.Errorf("EvalLine(%q, %v, %q) = %s, %d", text, each, line, show(l...), code)
	}
}

// lineFails fails if EvalLine has another code, or records.
func lineFails(t *testing.T, text string, each bool, line string, want int64) {
	t.Helper()
	l, code := impl.EvalLine(prog(t, text), each, line)
	if code != want || len(l) != 0 {
		t.Errorf("EvalLine(%q, %v, %q) = %s, %d", text, each, line, show(l...), code)
	}
}

func TestEvalLine(t *testing.T) {
	twice := "f0 f0 cat n1 emit"
	line(t, twice, true, " a bb ", rec{Key: "aa", N: 1}, rec{Key: "bbbb", N: 1})
	line(t, twice, false, " a bb ", rec{Key: "aa", N: 1})
	line(t, "f1 n1 emit", true, "a b", rec{Key: "", N: 1}, rec{Key: "", N: 1})
	line(t, "f1 n1 emit", false, "a b", rec{Key: "b", N: 1})
	line(t, "f0 n1 emit f0 n2 emit", true, "b a b", rec{Key: "b", N: 1}, rec{Key: "b", N: 2}, rec{Key: "a", N: 1}, rec{Key: "a", N: 2}, rec{Key: "b", N: 1}, rec{Key: "b", N: 2})
	line(t, "f0 n1 emit", false, "\tb\n \xff", rec{Key: "\tb\n", N: 1})
	for _, empty := range []string{"", " ", strings.Repeat(" ", 200)} {
		line(t, twice, true, empty)
		line(t, twice, false, empty, rec{Key: "", N: 1})
		line(t, "", true, empty)
		line(t, "", false, empty)
	}
	line(t, "", true, "a b c")
	line(t, "", false, "a b c")
}

func TestEvalLineLimits(t *testing.T) {
	at := strings.Repeat("k", 100) + strings.Repeat(" ", 100)
	for _, each := range []bool{false, true} {
		line(t, "t:a n1 emit", each, at, rec{Key: "a", N: 1})
		lineFails(t, "t:a n1 emit", each, at+" ", impl.EvForm)
		lineFails(t, "f0 n1 emit", each, at+" ", impl.EvForm)
		lineFails(t, "f0 n1 emit", each, strings.Repeat("k ", 100000), impl.EvForm)
		line(t, "", each, strings.Repeat(" ", 200))
		lineFails(t, "", each, strings.Repeat(" ", 201), impl.EvForm)
		lineFails(t, "t:a n1 emit", each, string(make([]byte, 201)), impl.EvForm)
		lineFails(t, "f0 n1 emit", each, longKey(41), impl.EvLong)
		line(t, "f0 n1 emit", each, longKey(40), rec{Key: longKey(40), N: 1})
	}
	many := strings.TrimSuffix(strings.Repeat("w ", 25), " ")
	line(t, "f19 n1 emit f0 n2 emit", false, many, rec{Key: "w", N: 1}, rec{Key: "w", N: 2})
	line(t, "f0 n2 emit", true, many, slices.Repeat([]rec{{Key: "w", N: 2}}, 20)...)
	ten := strings.TrimSuffix(strings.Repeat("t:a n1 emit ", 10), " ")
	line(t, ten, true, many, slices.Repeat([]rec{{Key: "a", N: 1}}, 200)...)
	lineFails(t, "f0 n1 emit", true, "a b "+longKey(41), impl.EvLong)
	lineFails(t, "f0 n1 emit", true, "a "+longKey(41)+" b", impl.EvLong)
	lineFails(t, "f0 n1 emit", true, longKey(41)+" b", impl.EvLong)
	line(t, "f0 n1 emit", false, "a b "+longKey(41), rec{Key: "a", N: 1})
	line(t, "f0 n1 emit", true, strings.Repeat("w ", 20)+longKey(41), slices.Repeat([]rec{{Key: "w", N: 1}}, 20)...)
}

func TestEvalLineIsEval(t *testing.T) {
	random := rand.New(rand.NewSource(6))
	for range 2000 {
		p := randomProg(random, 20)
		s := "a -12  " + longKey(random.Intn(45)) + " \xff 7 " + longKey(30)
		words := impl.WordsOf(s)
		want, wantCode := impl.Eval(p, words)
		if l, code := impl.EvalLine(p, false, s); code != wantCode || !slices.Equal(l, want) {
			t.Fatalf("EvalLine(%v, false, %q) = %s, %d", p, s, show(l...), code)
		}
		want, wantCode = nil, impl.EvOk
		for _, word := range words {
			l, code := impl.Eval(p, []string{word})
			if want = append(want, l...); code != impl.EvOk {
				want, wantCode = nil, code
				break
			}
		}
		if l, code := impl.EvalLine(p, true, s); code != wantCode || !slices.Equal(l, want) {
			t.Fatalf("EvalLine(%v, true, %q) = %s, %d", p, s, show(l...), code)
		}
	}
}

func TestProgramsMemory(t *testing.T) {
	spare := instr{Op: impl.PxNum, N: 7}
	words := []string{"a", "bb"}
	for _, p := range [][]instr{anyProg("f0 f1 cat n1 emit f0 n2 emit"), nil, {{Op: impl.PxEmit}}} {
		keeps(t, "ProgOk", p, spare, func(p []instr) { impl.ProgOk(p) })
		keeps(t, "ProgText", p, spare, func(p []instr) { impl.ProgText(p) })
		keeps(t, "Eval", p, spare, func(p []instr) { impl.Eval(p, words) })
		keeps(t, "EvalLine", p, spare, func(p []instr) { impl.EvalLine(p, true, " a bb ") })
		keeps(t, "Eval", words, "spare", func(l []string) { impl.Eval(p, l) })
	}
	fresh(t, "ReadProg", spare, func() []instr { return anyProg("f0 n1 emit") })
	mark := rec{Key: "mark"}
	p := anyProg("f0 n1 emit f0 n2 emit")
	fresh(t, "Eval", mark, func() []rec {
		l, _ := impl.Eval(p, words)
		return l
	})
	for _, each := range []bool{false, true} {
		fresh(t, "EvalLine", mark, func() []rec {
			l, _ := impl.EvalLine(p, each, "a bb")
			return l
		})
	}
}
