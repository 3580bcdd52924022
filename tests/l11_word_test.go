package tests

import (
	"math"
	"slices"
	"strconv"
	"strings"
	"testing"

	"loop.example/g00423/impl"
)

// A shape is what a word of one Op has: A, B and C, an a that may be -1 too, # for a number, @ for a place of Words, and N for a Name and Args; then what it uses, in order (* for its Args), and what it writes.
type shape struct{ has, uses, writes string }

func shapes() map[int]shape {
	return map[int]shape{
		impl.OpConst: {"A#", "", "A"},
		impl.OpCopy:  {"AB", "B", "A"},
		impl.OpMove:  {"AB", "B", "A"},
		impl.OpRead:  {"AB", "B", "A"},
		impl.OpClone: {"AB", "B", "A"},
		impl.OpLend:  {"AB", "B", "A"},
		impl.OpMut:   {"AB", "B", "A"},
		impl.OpInput: {"A", "", "A"},
		impl.OpNew:   {"AB", "B", "A"},
		impl.OpAdd:   {"ABC", "BC", "A"},
		impl.OpLess:  {"ABC", "BC", "A"},
		impl.OpSame:  {"ABC", "BC", "A"},
		impl.OpCall:  {"aN", "*", "a"},
		impl.OpPut:   {"AB", "B", "A"},
		impl.OpStore: {"AB", "AB", ""},
		impl.OpPrint: {"A", "A", ""},
		impl.OpDrop:  {"A", "", ""},
		impl.OpJump:  {"@", "", ""},
		impl.OpIf:    {"A@", "A", ""},
		impl.OpRet:   {"a", "a", ""},
	}
}

func everyOp() []int {
	var ops []int
	for op := impl.OpConst; op <= impl.OpRet; op++ {
		ops = append(ops, op)
	}
	return ops
}

// noOps are numbers that no word has as its Op.
func noOps() []int { return []int{0, -1, -2, -13, 21, 22, 33, 1 << 32, math.MinInt, math.MaxInt} }

func (s shape) hasAny(letters string) bool { return strings.ContainsAny(s.has, letters) }

// wordTold tells all of a word in short: 13 A-1 B0 C0 #0 f [1 2].
func wordTold(x impl.Ins) string {
	args := ""
	for _, at := range x.Args {
		args += " " + strconv.Itoa(at)
	}
	parts := []string{strconv.Itoa(x.Op), "A" + strconv.Itoa(x.A), "B" + strconv.Itoa(x.B), "C" + strconv.Itoa(x.C), "#" + strconv.Itoa(x.Num), strconv.Quote(x.Name)}
	return strings.Join(parts, " ") + " [" + strings.TrimSpace(args) + "]"
}

func codeTold(c impl.Code) string {
	words := ""
	for _, x := range c.Words {
		words += "; " + wordTold(x)
	}
	return c.Name + " " + strconv.Itoa(c.Params) + " of " + strconv.Itoa(len(c.Locals)) + words
}

func numbersTold(list []int) string {
	told := ""
	for _, n := range list {
		told += strconv.Itoa(n) + " "
	}
	return strings.TrimSpace(told)
}

func cloneWord(x impl.Ins) impl.Ins {
	x.Args = slices.Clone(x.Args)
	return x
}

func cloneCode(c impl.Code) impl.Code {
	c.Locals, c.Words = slices.Clone(c.Locals), slices.Clone(c.Words)
	for k, x := range c.Words {
		c.Words[k] = cloneWord(x)
	}
	return c
}

func isAt(n, places int) bool { return n >= 0 && n <= places-1 }

// wordByRule is WordOk, letter by letter of what the Op has.
func wordByRule(c impl.Code, x impl.Ins) bool {
	s, is := shapes()[x.Op]
	if !is {
		return false
	}
	locals, words := len(c.Locals), len(c.Words)
	holds := map[string]bool{
		"A": isAt(x.A, locals), "a": x.A == -1 || isAt(x.A, locals), "B": isAt(x.B, locals), "C": isAt(x.C, locals),
		"#": isAt(x.Num, impl.MaxNumber+1), "@": isAt(x.Num, words), "N": impl.NameOk(x.Name) && len(x.Args) <= 3,
	}
	for _, at := range x.Args {
		holds["N"] = holds["N"] && isAt(at, locals)
	}
	for letter, right := range holds {
		if s.hasAny(letter) && !right {
			return false
		}
	}
	return (s.hasAny("Aa") || x.A == 0) && (s.hasAny("B") || x.B == 0) && (s.hasAny("C") || x.C == 0) && (s.hasAny("#@") || x.Num == 0) && (s.hasAny("N") || x.Name == "" && len(x.Args) == 0)
}

// wordReadsByRule is Reads, letter by letter of what the Op uses.
func wordReadsByRule(x impl.Ins) []int {
	var all []int
	for _, letter := range shapes()[x.Op].uses {
		switch letter {
		case 'A':
			all = append(all, x.A)
		case 'a':
			if x.A != -1 {
				all = append(all, x.A)
			}
		case 'B':
			all = append(all, x.B)
		case 'C':
			all = append(all, x.C)
		case '*':
			all = append(all, x.Args...)
		}
	}
	var list []int
	for _, at := range all {
		if !slices.Contains(list, at) {
			list = append(list, at)
		}
	}
	return list
}

func writesByRule(x impl.Ins) int {
	if shapes()[x.Op].writes == "" {
		return -1
	}
	return x.A
}

func nextByRule(c impl.Code, i int) []int {
	if !isAt(i, len(c.Words)) {
		return nil
	}
	var list []int
	op := c.Words[i].Op
	if op != impl.OpRet && op != impl.OpJump && i+1 < len(c.Words) {
		list = append(list, i+1)
	}
	if (op == impl.OpIf || op == impl.OpJump) && isAt(c.Words[i].Num, len(c.Words)) {
		list = append(list, c.Words[i].Num)
	}
	return list
}

func codeByRule(c impl.Code) bool {
	for _, ty := range c.Locals {
		if !slices.Contains([]int{impl.TyInt, impl.TyBox, impl.TyRef, impl.TyMut}, ty) {
			return false
		}
	}
	for _, x := range c.Words {
		if !wordByRule(c, x) {
			return false
		}
	}
	words := len(c.Words)
	return impl.NameOk(c.Name) && c.Params >= 0 && c.Params <= len(c.Locals) && len(c.Locals) <= 200 && words >= 1 && words <= 400 && c.Words[words-1].Op == impl.OpRet
}

// wordHolds holds all that is told of a word against the rules, and gives whether it is right.
func wordHolds(t *testing.T, c impl.Code, x impl.Ins) bool {
	t.Helper()
	before := cloneWord(x)
	right := wordByRule(c, x)
	if impl.WordOk(c, x) != right {
		t.Errorf("WordOk of %s in %s is %t", wordTold(x), codeTold(c), !right)
	}
	if got, want := impl.Reads(x), wordReadsByRule(x); !slices.Equal(got, want) {
		t.Errorf("Reads of %s is %v; want %v", wordTold(x), got, want)
	}
	if got, want := impl.Writes(x), writesByRule(x); got != want {
		t.Errorf("Writes of %s is %d; want %d", wordTold(x), got, want)
	}
	if wordTold(x) != wordTold(before) {
		t.Errorf("the word %s is %s now", wordTold(before), wordTold(x))
	}
	return right
}

// codeHolds holds a code, and what comes behind each of its words, against the rules, and gives whether it is right.
func codeHolds(t *testing.T, what string, c impl.Code) bool {
	t.Helper()
	before := codeTold(c)
	right := codeByRule(c)
	if impl.CodeOk(c) != right {
		t.Errorf("%s: CodeOk of %s is %t", what, before, !right)
	}
	for _, i := range wrongPlaces(len(c.Words)) {
		isNext(t, c, i)
	}
	for i := range c.Words {
		isNext(t, c, i, nextByRule(c, i)...)
	}
	if codeTold(c) != before {
		t.Errorf("%s: the code %s is %s now", what, before, codeTold(c))
	}
	return right
}

func isNext(t *testing.T, c impl.Code, i int, want ...int) {
	t.Helper()
	if got := impl.Next(c, i); !slices.Equal(got, want) {
		t.Errorf("Next of %d in %s is %v; want %v", i, codeTold(c), got, want)
	}
}

func isWord(t *testing.T, want bool, c impl.Code, x impl.Ins) {
	t.Helper()
	if got := impl.WordOk(c, x); got != want {
		t.Errorf("WordOk of %s, with %d Locals and %d Words, is %t", wordTold(x), len(c.Locals), len(c.Words), got)
	}
}

func isCode(t *testing.T, want bool, what string, c impl.Code) {
	t.Helper()
	if got := impl.CodeOk(c); got != want {
		t.Errorf("%s: CodeOk of %s is %t", what, codeTold(c), got)
	}
}

// fiveWords is a right code with five Locals, and five words that do nothing to each other.
func fiveWords() impl.Code {
	return impl.Code{
		Name: "main", Locals: []int{impl.TyInt, impl.TyBox, impl.TyRef, impl.TyMut, impl.TyInt},
		Words: []impl.Ins{
			{Op: impl.OpConst, A: 0, Num: 3},
			{Op: impl.OpNew, A: 1, B: 0},
			{Op: impl.OpLend, A: 2, B: 1},
			{Op: impl.OpDrop, A: 1},
			{Op: impl.OpRet, A: -1},
		},
	}
}

// everyWord has a right word of each Op, for fiveWords, by its number.
func everyWord() []impl.Ins {
	return []impl.Ins{
		{Op: impl.OpConst, A: 4, Num: 1000},
		{Op: impl.OpCopy, A: 4, B: 2},
		{Op: impl.OpMove, A: 4, B: 2},
		{Op: impl.OpRead, A: 4, B: 2},
		{Op: impl.OpClone, A: 4, B: 2},
		{Op: impl.OpLend, A: 4, B: 2},
		{Op: impl.OpMut, A: 4, B: 2},
		{Op: impl.OpInput, A: 4},
		{Op: impl.OpNew, A: 4, B: 2},
		{Op: impl.OpAdd, A: 4, B: 3, C: 1},
		{Op: impl.OpLess, A: 4, B: 3, C: 1},
		{Op: impl.OpSame, A: 4, B: 3, C: 1},
		{Op: impl.OpCall, A: 4, Name: "f", Args: []int{3, 1, 2}},
		{Op: impl.OpPut, A: 4, B: 2},
		{Op: impl.OpStore, A: 4, B: 2},
		{Op: impl.OpPrint, A: 4},
		{Op: impl.OpDrop, A: 4},
		{Op: impl.OpJump, Num: 2},
		{Op: impl.OpIf, A: 4, Num: 2},
		{Op: impl.OpRet, A: 4},
	}
}

func TestOpsByNumber(t *testing.T) {
	ops := []int{impl.OpConst, impl.OpCopy, impl.OpMove, impl.OpRead, impl.OpClone, impl.OpLend, impl.OpMut, impl.OpInput, impl.OpNew, impl.OpAdd, impl.OpLess, impl.OpSame, impl.OpCall, impl.OpPut, impl.OpStore, impl.OpPrint, impl.OpDrop, impl.OpJump, impl.OpIf, impl.OpRet}
	for k, op := range ops {
		if op != k+1 {
			t.Errorf("the Op %d is %d", k+1, op)
		}
	}
	if len(ops) != 20 || impl.MaxCode != 400 {
		t.Errorf("%d Ops, MaxCode %d", len(ops), impl.MaxCode)
	}
}

// TestWordOfEachOp has what each Op uses and writes written out by hand.
func TestWordOfEachOp(t *testing.T) {
	want := map[int]string{
		impl.OpConst: " writes 4", impl.OpCopy: "2 writes 4", impl.OpMove: "2 writes 4", impl.OpRead: "2 writes 4",
		impl.OpClone: "2 writes 4", impl.OpLend: "2 writes 4", impl.OpMut: "2 writes 4", impl.OpInput: " writes 4",
		impl.OpNew: "2 writes 4", impl.OpAdd: "3 1 writes 4", impl.OpLess: "3 1 writes 4", impl.OpSame: "3 1 writes 4",
		impl.OpCall: "3 1 2 writes 4", impl.OpPut: "2 writes 4", impl.OpStore: "4 2 writes -1", impl.OpPrint: "4 writes -1",
		impl.OpDrop: " writes -1", impl.OpJump: " writes -1", impl.OpIf: "4 writes -1", impl.OpRet: "4 writes -1",
	}
	c := fiveWords()
	for k, x := range everyWord() {
		if x.Op != k+1 {
			t.Fatalf("everyWord has %s at %d", wordTold(x), k)
		}
		if got := numbersTold(impl.Reads(x)) + " writes " + strconv.Itoa(impl.Writes(x)); got != want[x.Op] {
			t.Errorf("%s uses %s; want %s", wordTold(x), got, want[x.Op])
		}
		isWord(t, true, c, x)
		if !wordHolds(t, c, x) {
			t.Errorf("the rule refuses %s", wordTold(x))
		}
	}
}

func TestReadsEachOnce(t *testing.T) {
	for _, told := range []struct {
		x    impl.Ins
		want string
	}{
		{impl.Ins{Op: impl.OpAdd, A: 1, B: 2, C: 2}, "2"},
		{impl.Ins{Op: impl.OpLess, A: 2, B: 2, C: 2}, "2"},
		{impl.Ins{Op: impl.OpSame, B: 1, C: 0}, "1 0"},
		{impl.Ins{Op: impl.OpStore, A: 3, B: 3}, "3"},
		{impl.Ins{Op: impl.OpStore, A: 1, B: 3}, "1 3"},
		{impl.Ins{Op: impl.OpCopy, A: 2, B: 2}, "2"},
		{impl.Ins{Op: impl.OpCall, A: -1, Name: "f"}, ""},
		{impl.Ins{Op: impl.OpCall, A: -1, Name: "f", Args: []int{}}, ""},
		{impl.Ins{Op: impl.OpCall, A: 1, Name: "f", Args: []int{1}}, "1"},
		{impl.Ins{Op: impl.OpCall, Name: "f", Args: []int{2, 2}}, "2"},
		{impl.Ins{Op: impl.OpCall, Name: "f", Args: []int{0, 0, 0}}, "0"},
		{impl.Ins{Op: impl.OpCall, Name: "f", Args: []int{2, 1, 2}}, "2 1"},
		{impl.Ins{Op: impl.OpCall, Name: "f", Args: []int{2, 2, 1}}, "2 1"},
		{impl.Ins{Op: impl.OpCall, Name: "f", Args: []int{1, 2, 2}}, "1 2"},
		{impl.Ins{Op: impl.OpCall, Name: "f", Args: []int{4, 3, 2}}, "4 3 2"},
		{impl.Ins{Op: impl.OpRet, A: -1}, ""},
		{impl.Ins{Op: impl.OpRet}, "0"},
		{impl.Ins{Op: impl.OpPrint}, "0"},
		{impl.Ins{Op: impl.OpIf, Num: 3}, "0"},
	} {
		if got := numbersTold(impl.Reads(told.x)); got != told.want {
			t.Errorf("Reads of %s is %s; want %s", wordTold(told.x), got, told.want)
		}
		isWord(t, true, fiveWords(), told.x)
	}
}

// TestReadsAndWritesOfWrongWords asks of places that no code has: what is told hangs on the Op and what the word says, not on a code.
func TestReadsAndWritesOfWrongWords(t *testing.T) {
	for _, told := range []struct {
		x      impl.Ins
		reads  string
		writes int
	}{
		{impl.Ins{}, "", -1},
		{impl.Ins{Op: 21, A: 1, B: 2, C: 3}, "", -1},
		{impl.Ins{Op: -1, A: 1, B: 2, C: 3, Num: 4, Name: "f"}, "", -1},
		{impl.Ins{Op: impl.OpConst, A: 1, B: 2, C: 3}, "", 1},
		{impl.Ins{Op: impl.OpConst, A: -1}, "", -1},
		{impl.Ins{Op: impl.OpConst, A: -2}, "", -2},
		{impl.Ins{Op: impl.OpCopy, A: 500, B: 600, C: 700}, "600", 500},
		{impl.Ins{Op: impl.OpCopy, A: -1, B: -1}, "-1", -1},
		{impl.Ins{Op: impl.OpInput, A: 1, B: 2, C: 3}, "", 1},
		{impl.Ins{Op: impl.OpAdd, A: -5, B: -1, C: -1}, "-1", -5},
		{impl.Ins{Op: impl.OpAdd, A: -1, B: math.MaxInt, C: math.MinInt}, "9223372036854775807 -9223372036854775808", -1},
		{impl.Ins{Op: impl.OpCall, A: -1, B: 7, C: 8, Args: []int{9, -1, 9, 6, 5}}, "9 -1 6 5", -1},
		{impl.Ins{Op: impl.OpCall, A: -2, Args: []int{-2}}, "-2", -2},
		{impl.Ins{Op: impl.OpPut, A: -1, B: 3, C: 4}, "3", -1},
		{impl.Ins{Op: impl.OpStore, A: -1, B: -2, C: 4}, "-1 -2", -1},
		{impl.Ins{Op: impl.OpPrint, A: -1, B: 2}, "-1", -1},
		{impl.Ins{Op: impl.OpDrop, A: 3, B: 4, C: 5}, "", -1},
		{impl.Ins{Op: impl.OpJump, A: 3, B: 4, C: 5, Num: 6}, "", -1},
		{impl.Ins{Op: impl.OpIf, A: -1, B: 4, C: 5}, "-1", -1},
		{impl.Ins{Op: impl.OpRet, A: -2, B: 3}, "-2", -1},
		{impl.Ins{Op: impl.OpRet, A: -1, B: 3, C: 4}, "", -1},
	} {
		if got := numbersTold(impl.Reads(told.x)); got != told.reads {
			t.Errorf("Reads of %s is %s; want %s", wordTold(told.x), got, told.reads)
		}
		if got := impl.Writes(told.x); got != told.writes {
			t.Errorf("Writes of %s is %d; want %d", wordTold(told.x), got, told.writes)
		}
	}
}

func TestReadsOfManyArgs(t *testing.T) {
	var args, want []int
	for k := range 200000 {
		args = append(args, k, 199999-k)
	}
	for k := range 100000 {
		want = append(want, k, 199999-k)
	}
	if got := impl.Reads(impl.Ins{Op: impl.OpCall, Name: "f", Args: args}); !slices.Equal(got, want) {
		t.Errorf("Reads of a call with %d Args has %d places; want %d", len(args), len(got), len(want))
	}
	isWord(t, false, impl.Code{Locals: make([]int, 200000), Words: fiveWords().Words}, impl.Ins{Op: impl.OpCall, Name: "f", Args: args})
}

func TestWordWithoutAnOp(t *testing.T) {
	c := fiveWords()
	for _, op := range noOps() {
		isWord(t, false, c, impl.Ins{Op: op})
		for _, x := range everyWord() {
			x.Op = op
			isWord(t, false, c, x)
			if wordHolds(t, c, x) {
				t.Errorf("the rule takes %s", wordTold(x))
			}
		}
	}
}

// TestPlacesOfEachOp sets A, B and C of each Op, each by itself, to the first and the last place of Locals, to those ahead of and behind them, and to what it has not.
func TestPlacesOfEachOp(t *testing.T) {
	c := fiveWords()
	for _, x := range everyWord() {
		has := shapes()[x.Op].has
		for _, at := range []int{0, 4, 5, -1, -2, 1 << 32, math.MaxInt, math.MinInt} {
			inside := at == 0 || at == 4
			a, b, cc := x, x, x
			a.A, b.B, cc.C = at, at, at
			isWord(t, strings.Contains(has, "A") && inside || strings.Contains(has, "a") && (inside || at == -1) || at == 0, c, a)
			isWord(t, strings.Contains(has, "B") && inside || at == 0, c, b)
			isWord(t, strings.Contains(has, "C") && inside || at == 0, c, cc)
		}
	}
}

// TestNoneIsOfCallsAndReturnsAlone asks for the A of -1 of each Op.
func TestNoneIsOfCallsAndReturnsAlone(t *testing.T) {
	for _, x := range everyWord() {
		x.A = -1
		isWord(t, x.Op == impl.OpCall || x.Op == impl.OpRet, fiveWords(), x)
		if got := impl.Writes(x); got != -1 {
			t.Errorf("Writes of %s is %d", wordTold(x), got)
		}
		x.A = -2
		isWord(t, false, fiveWords(), x)
	}
}

func TestNumOfEachOp(t *testing.T) {
	c := fiveWords()
	for _, x := range everyWord() {
		for _, n := range []int{0, 1, 4, 5, 6, impl.MaxNumber - 1, impl.MaxNumber, impl.MaxNumber + 1, -1, -5, math.MaxInt, math.MinInt} {
			x.Num = n
			switch x.Op {
			case impl.OpConst:
				isWord(t, 0 <= n && n <= 1000000000, c, x)
			case impl.OpJump, impl.OpIf:
				isWord(t, n == 0 || n == 1 || n == 4, c, x)
			default:
				isWord(t, n == 0, c, x)
			}
		}
	}
	for _, x := range []impl.Ins{{Op: impl.OpJump}, {Op: impl.OpIf}} {
		isWord(t, false, impl.Code{Name: "f", Locals: []int{1}}, x)
		isWord(t, true, impl.Code{Name: "f", Locals: []int{1}, Words: []impl.Ins{x}}, x)
	}
}

func TestNamesOfWords(t *testing.T) {
	c := fiveWords()
	names := map[string]bool{
		"f": true, "main": true, "abcdefgh": true, "a1234567": true, "fns": true, "x0": true,
		"": false, "abcdefghi": false, "1a": false, "F": false, "a b": false, "a_b": false, "é": false, "f\x00": false, " f": false,
	}
	for _, key := range keyWordTexts() {
		names[key] = false
	}
	for name, right := range names {
		for _, x := range everyWord() {
			x.Name = name
			isWord(t, x.Op == impl.OpCall && right || x.Op != impl.OpCall && name == "", c, x)
		}
		c.Name = name
		isCode(t, right, "a name", c)
	}
}

func TestArgsOfWords(t *testing.T) {
	c := fiveWords()
	lists := map[string]bool{
		"": true, "0": true, "4": true, "0 4": true, "4 0 3": true, "2 2 2": true, "3 3": true,
		"0 1 2 3": false, "0 0 0 0": false, "5": false, "-1": false, "0 5": false, "1 2 5": false, "-1 2 3": false, "1 -1 3": false, "1 2 -1": false, "5 1": false,
		"0 1 2 3 4": false, "9223372036854775807": false, "-9223372036854775808": false,
	}
	for text, right := range lists {
		args := []int{}
		for _, part := range strings.Fields(text) {
			at, err := strconv.Atoi(part)
			if err != nil {
				t.Fatal(err)
			}
			args = append(args, at)
		}
		for _, x := range everyWord() {
			x.Args = args
			isWord(t, x.Op == impl.OpCall && right || x.Op != impl.OpCall && text == "", c, x)
			wordHolds(t, c, x)
		}
	}
}

// TestWordsOfOtherCodes asks for words of codes that are not right themselves: a word hangs on nothing but how many Locals and Words there are.
func TestWordsOfOtherCodes(t *testing.T) {
	none := impl.Code{}
	for _, x := range everyWord() {
		isWord(t, false, none, x)
	}
	isWord(t, true, none, impl.Ins{Op: impl.OpRet, A: -1})
	isWord(t, true, none, impl.Ins{Op: impl.OpCall, A: -1, Name: "f"})
	isWord(t, false, none, impl.Ins{Op: impl.OpRet})
	isWord(t, false, none, impl.Ins{Op: impl.OpCall, Name: "f"})
	isWord(t, false, none, impl.Ins{Op: impl.OpCall, A: -1, Name: "f", Args: []int{0}})
	wrong := impl.Code{Name: "let", Params: -7, Locals: make([]int, 300), Words: make([]impl.Ins, 500)}
	for _, x := range everyWord() {
		isWord(t, true, wrong, x)
	}
	isWord(t, true, wrong, impl.Ins{Op: impl.OpCopy, A: 299, B: 299})
	isWord(t, false, wrong, impl.Ins{Op: impl.OpCopy, A: 300, B: 299})
	isWord(t, true, wrong, impl.Ins{Op: impl.OpJump, Num: 499})
	isWord(t, false, wrong, impl.Ins{Op: impl.OpJump, Num: 500})
}

// smallWords gives to see each word of an Op whose fields are of a few each.
func smallWords(ops []int, see func(x impl.Ins)) {
	for _, op := range ops {
		for _, places := range kindLists([]int{-1, 0, 1, 2}, 3) {
			if len(places) < 3 {
				continue
			}
			for _, num := range []int{-1, 0, 2, 3, impl.MaxNumber, impl.MaxNumber + 1} {
				for _, name := range []string{"", "f", "mut"} {
					for _, args := range [][]int{nil, {1}, {1, 0, 1}, {0, 2}, {0, 0, 1, 1}} {
						see(impl.Ins{Op: op, A: places[0], B: places[1], C: places[2], Num: num, Name: name, Args: args})
					}
				}
			}
		}
	}
}

func TestWordsAreTheRule(t *testing.T) {
	c := impl.Code{Name: "f", Locals: []int{1, 2}, Words: make([]impl.Ins, 3)}
	right := map[int]int{}
	smallWords(append(everyOp(), -1, 0, 21), func(x impl.Ins) {
		if wordHolds(t, c, x) {
			right[x.Op]++
		}
		if t.Failed() {
			t.FailNow()
		}
	})
	want := map[int]int{
		impl.OpConst: 8, impl.OpCopy: 4, impl.OpMove: 4, impl.OpRead: 4, impl.OpClone: 4, impl.OpLend: 4, impl.OpMut: 4, impl.OpInput: 2, impl.OpNew: 4,
		impl.OpAdd: 8, impl.OpLess: 8, impl.OpSame: 8, impl.OpCall: 9, impl.OpPut: 4, impl.OpStore: 4, impl.OpPrint: 2, impl.OpDrop: 2, impl.OpJump: 2, impl.OpIf: 4, impl.OpRet: 3,
	}
	for _, op := range everyOp() {
		if right[op] != want[op] {
			t.Errorf("%d words of the Op %d are right; want %d", right[op], op, want[op])
		}
	}
}

// TestOneThingTooMany gives each right word each field that it has not, and takes each that it has.
func TestOneThingTooMany(t *testing.T) {
	c := fiveWords()
	for _, x := range everyWord() {
		s := shapes()[x.Op]
		for letters, more := range map[string]func(x *impl.Ins){
			"Aa": func(x *impl.Ins) { x.A = 1 },
			"B":  func(x *impl.Ins) { x.B = 1 },
			"C":  func(x *impl.Ins) { x.C = 1 },
			"#@": func(x *impl.Ins) { x.Num = 1 },
			"N":  func(x *impl.Ins) { x.Name = "g" },
			"N*": func(x *impl.Ins) { x.Args = []int{1} },
		} {
			y := cloneWord(x)
			more(&y)
			isWord(t, s.hasAny(letters), c, y)
		}
		isWord(t, true, c, x)
	}
}

func TestCodeOfEachOp(t *testing.T) {
	isCode(t, true, "five words", fiveWords())
	for _, x := range everyWord() {
		c := fiveWords()
		c.Words[1] = x
		isCode(t, true, "a word in the middle", c)
		codeHolds(t, "a word in the middle", c)
		c = fiveWords()
		c.Words[4] = x
		isCode(t, x.Op == impl.OpRet, "a word at the end", c)
		codeHolds(t, "a word at the end", c)
		c = fiveWords()
		c.Words = append(c.Words, x)
		isCode(t, x.Op == impl.OpRet, "a word behind the end", c)
	}
	alone := impl.Code{Name: "f", Words: []impl.Ins{{Op: impl.OpRet, A: -1}}}
	isCode(t, true, "a return alone", alone)
	alone.Words[0].A = 0
	isCode(t, false, "a return of no Local", alone)
	alone.Locals = []int{impl.TyMut}
	isCode(t, true, "a return of the one Local", alone)
	isCode(t, false, "a code without Words", impl.Code{Name: "f", Locals: []int{1}})
	isCode(t, false, "a code without Words", impl.Code{Name: "f", Locals: []int{1}, Words: []impl.Ins{}})
	isCode(t, false, "nothing", impl.Code{})
}

// TestCodeWithOneWrongWord puts what is no right word at each place of a code.
func TestCodeWithOneWrongWord(t *testing.T) {
	wrong := []impl.Ins{
		{}, {Op: 21}, {Op: -1}, {Op: impl.OpConst, A: 5}, {Op: impl.OpConst, Num: impl.MaxNumber + 1}, {Op: impl.OpInput, B: 1}, {Op: impl.OpRet, A: 5},
		{Op: impl.OpRet, A: -2}, {Op: impl.OpRet, A: -1, Num: 1}, {Op: impl.OpRet, A: -1, Name: "f"}, {Op: impl.OpRet, A: -1, Args: []int{0}},
		{Op: impl.OpJump, Num: 5}, {Op: impl.OpIf, Num: -1}, {Op: impl.OpCall, Name: "ret"}, {Op: impl.OpCall, Name: "f", Args: []int{0, 0, 0, 0}}, {Op: impl.OpPrint, A: -1},
	}
	for _, x := range wrong {
		for at := range fiveWords().Words {
			c := fiveWords()
			c.Words[at] = x
			isCode(t, false, "a wrong word", c)
			if codeHolds(t, "a wrong word", c) {
				t.Errorf("the rule takes %s", codeTold(c))
			}
		}
	}
}

func TestJumpsOfCodes(t *testing.T) {
	for _, op := range []int{impl.OpJump, impl.OpIf} {
		for at := range 4 {
			for _, to := range []int{0, 1, 2, 3, 4, 5, 6, -1} {
				c := fiveWords()
				c.Words[at] = impl.Ins{Op: op, Num: to}
				isCode(t, 0 <= to && to <= 4, "a jump", c)
				codeHolds(t, "a jump", c)
			}
		}
	}
}

func TestParamsOfCodes(t *testing.T) {
	for params, right := range map[int]bool{0: true, 1: true, 3: true, 4: true, 5: true, 6: false, -1: false, math.MaxInt: false, math.MinInt: false} {
		c := fiveWords()
		c.Params = params
		isCode(t, right, "Params", c)
	}
	c := impl.Code{Name: "f", Params: 1, Words: []impl.Ins{{Op: impl.OpRet, A: -1}}}
	isCode(t, false, "Params without Locals", c)
	c.Params = 0
	isCode(t, true, "no Params and no Locals", c)
}

func TestLocalsOfCodes(t *testing.T) {
	for at := range 5 {
		for _, ty := range everyType() {
			c := fiveWords()
			c.Locals[at] = ty
			isCode(t, ty == 1 || ty == 2 || ty == 3 || ty == 4, "a Local of the type "+strconv.Itoa(ty), c)
		}
	}
	for _, n := range []int{5, 199, 200, 201, 202, 1000} {
		c := fiveWords()
		c.Locals = slices.Repeat([]int{impl.TyBox}, n)
		c.Words[0].A = n - 1
		isCode(t, n <= 200, "Locals", c)
		c.Params = n
		isCode(t, n <= 200, "as many Params as Locals", c)
		c.Params = n + 1
		isCode(t, false, "more Params than Locals", c)
		c.Params = 0
		c.Words[0].A = n
		isCode(t, false, "a place behind Locals", c)
	}
}

func TestLengthOfCodes(t *testing.T) {
	for _, n := range []int{1, 2, 399, 400, 401, 402, 5000} {
		c := fiveWords()
		c.Words = slices.Repeat([]impl.Ins{{Op: impl.OpPrint}}, n)
		c.Words[n-1] = impl.Ins{Op: impl.OpRet, A: -1}
		isCode(t, n <= 400, "Words", c)
		c.Words[0] = impl.Ins{Op: impl.OpJump, Num: n - 1}
		isCode(t, 1 < n && n <= 400, "Words with a jump to the last one", c)
		c.Words[0].Num = n
		isCode(t, false, "Words with a jump behind them", c)
	}
}

// aLoop counts down from what is asked for, and prints each time whether it is 1: jumps lead ahead and back.
func aLoop() impl.Code {
	return impl.Code{
		Name: "main", Locals: []int{1, 1, 1, 1, 1},
		Words: []impl.Ins{
			{Op: impl.OpInput, A: 0},            // 0
			{Op: impl.OpCopy, A: 1, B: 0},       // 1
			{Op: impl.OpIf, A: 1, Num: 12},      // 2
			{Op: impl.OpConst, A: 2, Num: 1},    // 3
			{Op: impl.OpSame, A: 3, B: 0, C: 2}, // 4
			{Op: impl.OpIf, A: 3, Num: 8},       // 5
			{Op: impl.OpPrint, A: 2},            // 6
			{Op: impl.OpJump, Num: 10},          // 7
			{Op: impl.OpConst, A: 4},            // 8
			{Op: impl.OpPrint, A: 4},            // 9
			{Op: impl.OpPut, A: 0, B: 4},        // 10
			{Op: impl.OpJump, Num: 1},           // 11
			{Op: impl.OpIf, A: 0, Num: 13},      // 12
			{Op: impl.OpIf, A: 0, Num: 13},      // 13
			{Op: impl.OpRet, A: -1},             // 14
			{Op: impl.OpDrop, A: 0},             // 15
			{Op: impl.OpRet, A: 0},              // 16
		},
	}
}

func TestNextOfEachWord(t *testing.T) {
	c := aLoop()
	isCode(t, true, "a loop", c)
	want := [][]int{{1}, {2}, {3, 12}, {4}, {5}, {6, 8}, {7}, {10}, {9}, {10}, {11}, {1}, {13, 13}, {14, 13}, nil, {16}, nil}
	for i := range c.Words {
		isNext(t, c, i, want[i]...)
	}
	for _, i := range []int{-1, -2, 17, 18, 1 << 32, math.MaxInt, math.MinInt} {
		isNext(t, c, i)
	}
}

// TestNextIsFollowed goes from the first word to all that one may come to, and has that by hand.
func TestNextIsFollowed(t *testing.T) {
	c := aLoop()
	for from, want := range map[int]string{
		0: "0 1 2 3 4 5 6 7 8 9 10 11 12 13 14", 1: "1 2 3 4 5 6 7 8 9 10 11 12 13 14", 7: "1 2 3 4 5 6 7 8 9 10 11 12 13 14",
		12: "12 13 14", 13: "13 14", 14: "14", 15: "15 16", 16: "16",
	} {
		come, todo := map[int]bool{from: true}, []int{from}
		for len(todo) > 0 {
			next := impl.Next(c, todo[0])
			todo = todo[1:]
			for _, at := range next {
				if !come[at] {
					come[at] = true
					todo = append(todo, at)
				}
			}
		}
		var list []int
		for at := range c.Words {
			if come[at] {
				list = append(list, at)
			}
		}
		if got := numbersTold(list); got != want {
			t.Errorf("from %d one comes to %s; want %s", from, got, want)
		}
	}
}

// TestNextOfWrongCodes asks of jumps out of the code, of a last word that is no OpRet, and of words without an Op.
func TestNextOfWrongCodes(t *testing.T) {
	ret := impl.Ins{Op: impl.OpRet, A: -1}
	for _, far := range []int{3, 4, -1, -3, 1 << 32, math.MaxInt, math.MinInt} {
		c := impl.Code{Words: []impl.Ins{{Op: impl.OpJump, Num: far}, {Op: impl.OpIf, Num: far}, {Op: impl.OpIf, Num: far}}}
		isNext(t, c, 0)
		isNext(t, c, 1, 2)
		isNext(t, c, 2)
	}
	for _, x := range everyWord() {
		last := impl.Code{Words: []impl.Ins{ret, x}}
		ahead := impl.Code{Words: []impl.Ins{x, ret}}
		x.Num = 1
		switch x.Op {
		case impl.OpRet, impl.OpJump, impl.OpIf:
			continue
		}
		isNext(t, last, 1)
		isNext(t, ahead, 0, 1)
	}
	isNext(t, impl.Code{Words: []impl.Ins{ret, {Op: impl.OpJump}}}, 1, 0)
	isNext(t, impl.Code{Words: []impl.Ins{ret, {Op: impl.OpIf}}}, 1, 0)
	isNext(t, impl.Code{Words: []impl.Ins{ret, {Op: impl.OpIf, Num: 1}}}, 1, 1)
	isNext(t, impl.Code{Words: []impl.Ins{{Op: impl.OpIf}, ret}}, 0, 1, 0)
	isNext(t, impl.Code{Words: []impl.Ins{{Op: impl.OpIf, Num: 1}, ret}}, 0, 1, 1)
	isNext(t, impl.Code{Words: []impl.Ins{{Op: impl.OpRet, A: 5, Num: 1}, ret}}, 0)
	for _, op := range noOps() {
		c := impl.Code{Words: []impl.Ins{{Op: op, Num: 2}, {Op: op, Num: 0}, {Op: op, Num: 0}}}
		isNext(t, c, 0, 1)
		isNext(t, c, 1, 2)
		isNext(t, c, 2)
	}
	isNext(t, impl.Code{}, 0)
	isNext(t, impl.Code{}, -1)
	long := impl.Code{Words: make([]impl.Ins, 1000)}
	isNext(t, long, 998, 999)
	isNext(t, long, 999)
	isNext(t, long, 1000)
}

// anyWord makes a word for a code of so many Locals and Words, right but for one field in so many.
func anyWord(d *dice, locals, words, careless int) impl.Ins {
	x := impl.Ins{Op: 1 + d.below(20)}
	if d.below(careless) == 0 {
		x.Op = []int{0, -1, 21, 22}[d.below(4)]
	}
	has := shapes()[x.Op].has
	place := func(letters string) int {
		switch {
		case d.below(careless) == 0:
			return d.below(locals+4) - 2
		case strings.Contains(letters, "a") && strings.Contains(has, "a") && d.below(3) == 0:
			return -1
		case strings.ContainsAny(has, letters):
			return d.below(max(locals, 1))
		}
		return 0
	}
	x.A, x.B, x.C = place("Aa"), place("B"), place("C")
	switch {
	case d.below(careless) == 0:
		x.Num = []int{-1, 1, words, words - 1, impl.MaxNumber, impl.MaxNumber + 1}[d.below(6)]
	case strings.Contains(has, "#"):
		x.Num = d.below(impl.MaxNumber + 1)
	case strings.Contains(has, "@"):
		x.Num = d.below(words)
	}
	if strings.Contains(has, "N") != (d.below(careless) == 0) {
		x.Name = []string{"f", "g", "abcdefgh", "f", "g", "a1", "f", "abcdefghi"}[d.below(8)]
	}
	if strings.Contains(has, "N") != (d.below(careless) == 0) {
		for range d.below(4) {
			x.Args = append(x.Args, place("N"))
		}
	}
	return x
}

func anyCode(d *dice, careless int) impl.Code {
	c := impl.Code{Name: "f"}
	locals, words := d.below(6), 1+d.below(12)
	for range locals {
		c.Locals = append(c.Locals, 1+d.below(4))
	}
	c.Params = d.below(locals + 1)
	for range words - 1 {
		c.Words = append(c.Words, anyWord(d, locals, words, careless))
	}
	c.Words = append(c.Words, impl.Ins{Op: impl.OpRet, A: d.below(locals+1) - 1})
	switch d.below(careless) {
	case 0:
		c.Name = []string{"", "new", "abcdefghi"}[d.below(3)]
	case 1:
		c.Params = []int{-1, locals + 1}[d.below(2)]
	case 2:
		c.Words = c.Words[:words-1]
	case 3:
		c.Locals = append(c.Locals, []int{0, 5, -1}[d.below(3)])
	}
	return c
}

func TestAnyCodesAreTheRule(t *testing.T) {
	right, wrong, words := 0, 0, map[int]int{}
	for start := range 30000 {
		d := dice(start)
		c := anyCode(&d, []int{1000, 60, 10}[start%3])
		if codeHolds(t, "start "+strconv.Itoa(start), c) {
			right++
		} else {
			wrong++
		}
		for _, x := range c.Words {
			if wordHolds(t, c, x) {
				words[x.Op]++
			}
		}
		if t.Failed() {
			t.FailNow()
		}
	}
	if right < 3000 || wrong < 3000 {
		t.Errorf("%d codes are right, %d are not: the test tells little", right, wrong)
	}
	for _, op := range everyOp() {
		if words[op] < 1000 {
			t.Errorf("%d words of the Op %d are right: the test tells little", words[op], op)
		}
	}
}

// TestRightWordsUseAndWriteTheirPlaces asks for no rule: what a word of a right code uses and writes are places of Locals, each once, and what comes behind it are places of Words, so that one never comes out of the code.
func TestRightWordsUseAndWriteTheirPlaces(t *testing.T) {
	codes, ways := 0, 0
	for start := range 6000 {
		d := dice(start + 50000)
		c := anyCode(&d, 2000)
		if !impl.CodeOk(c) {
			continue
		}
		codes++
		for i, x := range c.Words {
			uses := impl.Reads(x)
			for k, at := range uses {
				if at < 0 || at >= len(c.Locals) || slices.Contains(uses[:k], at) {
					t.Fatalf("start %d: Reads of %s is %v, of %d Locals", start, wordTold(x), uses, len(c.Locals))
				}
			}
			if at := impl.Writes(x); at < -1 || at >= len(c.Locals) {
				t.Fatalf("start %d: Writes of %s is %d, of %d Locals", start, wordTold(x), at, len(c.Locals))
			}
			if next := impl.Next(c, i); (len(next) == 0) != (x.Op == impl.OpRet) {
				t.Fatalf("start %d: Next of %d in %s is %v", start, i, codeTold(c), next)
			}
		}
		at := 0
		for range 40 {
			next := impl.Next(c, at)
			if len(next) == 0 {
				break
			}
			at = next[d.below(len(next))]
			ways++
		}
	}
	if codes < 1000 || ways < 3000 {
		t.Errorf("%d codes with %d steps: the test tells little", codes, ways)
	}
}

// TestUsesHangOnTheirOwnFields changes one field of a right word at a time: what it uses and writes changes with just those that it tells.
func TestUsesHangOnTheirOwnFields(t *testing.T) {
	for _, x := range everyWord() {
		s := shapes()[x.Op]
		uses, writes := numbersTold(impl.Reads(x)), impl.Writes(x)
		for letters, other := range map[string]func(x *impl.Ins){
			"Aa": func(x *impl.Ins) { x.A = 0 },
			"B":  func(x *impl.Ins) { x.B = 0 },
			"C":  func(x *impl.Ins) { x.C = 0 },
			"":   func(x *impl.Ins) { x.Num, x.Name = 1, "h" },
		} {
			y := cloneWord(x)
			other(&y)
			if changes := numbersTold(impl.Reads(y)) != uses; changes != (strings.ContainsAny(s.uses, letters) && numbersTold([]int{x.A, x.B, x.C}) != numbersTold([]int{y.A, y.B, y.C})) {
				t.Errorf("Reads of %s is %s, of %s %v", wordTold(x), uses, wordTold(y), impl.Reads(y))
			}
			if changes := impl.Writes(y) != writes; changes != (strings.ContainsAny(s.writes, letters) && x.A != y.A) {
				t.Errorf("Writes of %s is %d, of %s %d", wordTold(x), writes, wordTold(y), impl.Writes(y))
			}
		}
	}
}

func TestCodesKeepNothing(t *testing.T) {
	c := aLoop()
	words := everyWord()
	for range 3 {
		for _, x := range words {
			wordHolds(t, fiveWords(), x)
			wordHolds(t, impl.Code{}, x)
		}
		codeHolds(t, "a loop", c)
		codeHolds(t, "nothing", impl.Code{})
		codeHolds(t, "five words", fiveWords())
		slices.Reverse(words)
	}
}

// roomyCode gives the code with spare room behind each list, filled with what nobody would write.
func roomyCode(c impl.Code) impl.Code {
	room := impl.Ins{Op: -77, Args: []int{-77}}
	c.Locals = append(append(make([]int, 0, len(c.Locals)+3), c.Locals...), -77, -77, -77)[:len(c.Locals)]
	c.Words = append(append(make([]impl.Ins, 0, len(c.Words)+2), c.Words...), room, room)[:len(c.Words)]
	for k, x := range c.Words {
		c.Words[k] = roomyWord(x)
	}
	return c
}

func roomyWord(x impl.Ins) impl.Ins {
	x.Args = append(append(make([]int, 0, len(x.Args)+3), x.Args...), -77, -77, -77)[:len(x.Args)]
	return x
}

// isWordUntouched tells whether a word is as it was, and the room behind its Args too.
func isWordUntouched(x, before impl.Ins) bool {
	return wordTold(x) == wordTold(before) && slices.Equal(x.Args[:len(x.Args)+3][len(x.Args):], []int{-77, -77, -77})
}

func isCodeUntouched(c, before impl.Code) bool {
	for k, x := range c.Words {
		if !isWordUntouched(x, before.Words[k]) {
			return false
		}
	}
	for _, x := range c.Words[:len(c.Words)+2][len(c.Words):] {
		if x.Op != -77 || len(x.Args) != 1 || x.Args[0] != -77 {
			return false
		}
	}
	return codeTold(c) == codeTold(before) && slices.Equal(c.Locals, before.Locals) && slices.Equal(c.Locals[:len(c.Locals)+3][len(c.Locals):], []int{-77, -77, -77})
}

// wordsForRoom are right and wrong words; among their Args are some that stand twice.
func wordsForRoom() []impl.Ins {
	return append(everyWord(),
		impl.Ins{Op: impl.OpCall, Name: "f", Args: []int{2, 2, 1}}, impl.Ins{Op: impl.OpCall, Name: "f", Args: []int{1, 1, 1, 3, 3, 9}}, impl.Ins{Op: impl.OpCall, Name: "f", Args: []int{3}},
		impl.Ins{Op: impl.OpCall, A: -1, Name: "f"}, impl.Ins{Op: impl.OpPrint, Args: []int{1, 2}}, impl.Ins{Op: impl.OpIf, A: 1, Num: 9}, impl.Ins{Op: impl.OpIf, A: 1, Num: 4}, impl.Ins{Op: 21, Args: []int{1}})
}

func writeOver(list []int) {
	list = list[:cap(list)]
	for k := range list {
		list[k] = -99
	}
}

func TestCodeArgumentsStayAsTheyAre(t *testing.T) {
	base := fiveWords()
	base.Words = append(wordsForRoom(), base.Words...)
	before, c := cloneCode(base), roomyCode(base)
	impl.CodeOk(c)
	for i, x := range before.Words {
		y := roomyWord(x)
		impl.WordOk(c, y)
		impl.Writes(y)
		writeOver(impl.Reads(y))
		if !isWordUntouched(y, x) {
			t.Errorf("the word %s is %s now, with %v behind", wordTold(x), wordTold(y), y.Args[:cap(y.Args)])
		}
		writeOver(impl.Reads(c.Words[i]))
		writeOver(impl.Next(c, i))
		if !isCodeUntouched(c, before) {
			t.Fatalf("the code is %s now; it was %s", codeTold(c), codeTold(before))
		}
	}
}

func TestCodeAnswersStayWhenArgumentsChange(t *testing.T) {
	for _, x := range wordsForRoom() {
		want := wordReadsByRule(x)
		y := roomyWord(x)
		got := impl.Reads(y)
		writeOver(y.Args)
		if !slices.Equal(got, want) {
			t.Errorf("Reads of %s hangs on what is written later: %v; want %v", wordTold(x), got, want)
		}
	}
	c := aLoop()
	for i := range c.Words {
		want := nextByRule(c, i)
		got := impl.Next(c, i)
		c.Words[i].Num = 0
		if !slices.Equal(got, want) {
			t.Errorf("Next of %d hangs on what is written later: %v; want %v", i, got, want)
		}
	}
}

func TestCodeAnswersAreNewMemory(t *testing.T) {
	told := func(lists ...[]int) []span {
		var spans []span
		for _, list := range lists {
			if cap(list) > 0 {
				spans = append(spans, spanOf(list))
			}
		}
		return spans
	}
	c := roomyCode(impl.Code{Locals: []int{1, 2}, Words: wordsForRoom()})
	for i, x := range c.Words {
		if meet(told(x.Args, c.Locals, impl.Reads(x), impl.Reads(x))) {
			t.Errorf("what Reads of %s gives shares memory", wordTold(x))
		}
		if meet(told(x.Args, c.Locals, impl.Next(c, i), impl.Next(c, i))) {
			t.Errorf("what Next of %d gives shares memory", i)
		}
	}
}
