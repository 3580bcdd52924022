package tests

import (
	"math"
	"regexp"
	"slices"
	"strconv"
	"strings"
	"testing"
	"unsafe"

	"loop.example/g00423/impl"
)

const lowerLetters = "abcdefghijklmnopqrstuvwxyz"

func keyWordTexts() []string {
	return []string{"fn", "let", "if", "else", "while", "print", "do", "new", "clone", "mut", "input", "int", "box", "ret"}
}

func markTexts() []string {
	return []string{"->", "==", "(", ")", "{", "}", ";", ":", ",", "&", "*", "=", "+", "<"}
}

func word(text string) impl.Sign { return impl.Sign{Kind: impl.SgName, Text: text} }

func mark(text string) impl.Sign { return impl.Sign{Kind: impl.SgMark, Text: text} }

func number(n int) impl.Sign { return impl.Sign{Kind: impl.SgNum, Num: n} }

// everySign gives each mark, each key word, and other words and numbers of each length.
func everySign() []impl.Sign {
	var list []impl.Sign
	for _, text := range markTexts() {
		list = append(list, mark(text))
	}
	for _, text := range append(keyWordTexts(), "a", "z", "a0", "z9", "fn1", "lets", "x1y2z3w4", "abcdefgh", "zzzzzzzz") {
		list = append(list, word(text))
	}
	for _, n := range []int{0, 1, 9, 10, 99, 12345, 123456789, 999999999, impl.MaxNumber} {
		list = append(list, number(n))
	}
	return list
}

func isSigns(t *testing.T, text string, want []impl.Sign) {
	t.Helper()
	if got, ok := impl.SignsOf(text); !slices.Equal(got, want) || !ok {
		t.Fatalf("SignsOf(%.60q) = %d signs, %v, %v; want %d, %v, true", text, len(got), got[:min(len(got), 12)], ok, len(want), want[:min(len(want), 12)])
	}
}

func refusesSigns(t *testing.T, text string) {
	t.Helper()
	if got, ok := impl.SignsOf(text); len(got) != 0 || ok {
		t.Fatalf("SignsOf(%.60q) = %d signs, %v, %v; want nothing, false", text, len(got), got[:min(len(got), 12)], ok)
	}
}

var signPattern = regexp.MustCompile(`^(?:[ \n]+|([a-z][a-z0-9]*)|([0-9]+)|(->|==|[(){};:,&*=+<]))`)

// signsByRule reads signs by a pattern for each of them, as the document words them.
func signsByRule(text string) ([]impl.Sign, bool) {
	if len(text) > impl.MaxSource {
		return nil, false
	}
	var list []impl.Sign
	for text != "" {
		found := signPattern.FindStringSubmatch(text)
		switch {
		case found == nil || len(found[1]) > 8 || len(found[2]) > 10:
			return nil, false
		case found[1] != "":
			list = append(list, word(found[1]))
		case found[2] != "":
			n, _ := strconv.Atoi(found[2])
			if n > 1000000000 {
				return nil, false
			}
			list = append(list, number(n))
		case found[3] != "":
			list = append(list, mark(found[3]))
		}
		text = text[len(found[0]):]
	}
	return list, true
}

func TestKeyWords(t *testing.T) {
	for _, s := range keyWordTexts() {
		if !impl.KeyWord(s) {
			t.Errorf("KeyWord(%q) = false", s)
		}
		for _, other := range []string{s[1:], s[:len(s)-1], s + "s", s + "1", "a" + s, s + s, s + " ", " " + s, s + "\x00", strings.ToUpper(s), strings.ToUpper(s[:1]) + s[1:]} {
			if impl.KeyWord(other) != slices.Contains(keyWordTexts(), other) {
				t.Errorf("KeyWord(%q) = %v", other, impl.KeyWord(other))
			}
		}
	}
	for _, s := range append(textsOver(lowerLetters, 3), textsOver(allBytes(), 1)...) {
		if impl.KeyWord(s) != slices.Contains(keyWordTexts(), s) {
			t.Fatalf("KeyWord(%q) = %v", s, impl.KeyWord(s))
		}
	}
	for _, s := range append(markTexts(), "true", "false", "return", "fnlet", "fn let", strings.Repeat("fn", 10000), "fn\xff", "ﬁ") {
		if impl.KeyWord(s) {
			t.Errorf("KeyWord(%.20q) = true", s)
		}
	}
}

func TestNameOkTakesNames(t *testing.T) {
	for _, s := range []string{"a", "z", "a1", "z9", "a0", "ab", "abcdefg", "abcdefgh", "a1234567", "zzzzzzzz", "fn1", "f", "fns", "lets", "afn", "inputs", "in", "whiles", "boxbox", "elseif"} {
		if !impl.NameOk(s) {
			t.Errorf("NameOk(%q) = false", s)
		}
	}
}

func TestNameOkRefusesOthers(t *testing.T) {
	wrong := append(keyWordTexts(), "", "1", "1a", "0", "12345678", "abcdefghi", "a12345678", "whilewhile",
		"A", "Z", "aB", "Ab", "ABCDEFGH", "a_b", "_a", "a-b", "a b", " a", "a ", "\na", "a\n", "a\x00", "a\t", "\x00", "a.b",
		"é", "aé", "a\xc3", "a\xff", "\x80", "a\ufffd", "١", "a١", "ａ", "aａ", strings.Repeat("a", 9), strings.Repeat("a", 30000))
	for _, s := range append(wrong, markTexts()...) {
		if impl.NameOk(s) {
			t.Errorf("NameOk(%.20q) = true", s)
		}
	}
}

func TestNameOkIsTheRule(t *testing.T) {
	pattern := regexp.MustCompile(`^[a-z][a-z0-9]{0,7}$`)
	texts := append(textsOver(allBytes(), 2), textsOver("az09fnido`{/:A \n", 4)...)
	for _, s := range texts {
		// In the pattern, $ is the end of the text alone.
		want := pattern.MatchString(s) && !slices.Contains(keyWordTexts(), s)
		if impl.NameOk(s) != want {
			t.Fatalf("NameOk(%q) = %v", s, !want)
		}
	}
	for n := range 20 {
		for _, s := range []string{strings.Repeat("q", n), strings.Repeat("a1", n), "a" + strings.Repeat("0", n)} {
			if want := pattern.MatchString(s); impl.NameOk(s) != want {
				t.Errorf("NameOk(%q) = %v", s, !want)
			}
		}
	}
}

func TestSignsForms(t *testing.T) {
	for _, c := range []struct {
		text string
		want []impl.Sign
	}{
		{"", nil},
		{" ", nil},
		{"\n", nil},
		{" \n \n\n  ", nil},
		{"a", []impl.Sign{word("a")}},
		{"fn", []impl.Sign{word("fn")}},
		{"0", []impl.Sign{number(0)}},
		{"let a1=*b+10;", []impl.Sign{word("let"), word("a1"), mark("="), mark("*"), word("b"), mark("+"), number(10), mark(";")}},
		{"fn f(a: &mut box) -> int {\n  ret *a;\n}\n", []impl.Sign{word("fn"), word("f"), mark("("), word("a"), mark(":"), mark("&"), word("mut"), word("box"), mark(")"),
			mark("->"), word("int"), mark("{"), word("ret"), mark("*"), word("a"), mark(";"), mark("}")}},
		{"a=b", []impl.Sign{word("a"), mark("="), word("b")}},
		{"a==b", []impl.Sign{word("a"), mark("=="), word("b")}},
		{"a= =b", []impl.Sign{word("a"), mark("="), mark("="), word("b")}},
		{"a->b", []impl.Sign{word("a"), mark("->"), word("b")}},
		{"1a", []impl.Sign{number(1), word("a")}},
		{"a1", []impl.Sign{word("a1")}},
		{"a 1", []impl.Sign{word("a"), number(1)}},
		{"a\n1", []impl.Sign{word("a"), number(1)}},
		{"1 a", []impl.Sign{number(1), word("a")}},
		{"1 1", []impl.Sign{number(1), number(1)}},
		{"1a1", []impl.Sign{number(1), word("a1")}},
		{"00a", []impl.Sign{number(0), word("a")}},
		{"===", []impl.Sign{mark("=="), mark("=")}},
		{"====", []impl.Sign{mark("=="), mark("==")}},
		{"=====", []impl.Sign{mark("=="), mark("=="), mark("=")}},
		{"->->", []impl.Sign{mark("->"), mark("->")}},
		{"=->", []impl.Sign{mark("="), mark("->")}},
		{"->=", []impl.Sign{mark("->"), mark("=")}},
		{"<=", []impl.Sign{mark("<"), mark("=")}},
		{"<->", []impl.Sign{mark("<"), mark("->")}},
		{"<<", []impl.Sign{mark("<"), mark("<")}},
		{"&&mut", []impl.Sign{mark("&"), mark("&"), word("mut")}},
		{"fnlet", []impl.Sign{word("fnlet")}},
		{"007", []impl.Sign{number(7)}},
		{"()", []impl.Sign{mark("("), mark(")")}},
		{"(){};:,&*=+<", []impl.Sign{mark("("), mark(")"), mark("{"), mark("}"), mark(";"), mark(":"), mark(","), mark("&"), mark("*"), mark("="), mark("+"), mark("<")}},
	} {
		isSigns(t, c.text, c.want)
	}
}

// rowsOfSigns gives rows of signs of each Kind: each sign alone, each two of them, and long rows.
func rowsOfSigns() [][]impl.Sign {
	signs := everySign()
	rows := [][]impl.Sign{nil, signs}
	for _, a := range signs {
		rows = append(rows, []impl.Sign{a})
		for _, b := range signs {
			rows = append(rows, []impl.Sign{a, b})
		}
	}
	for start := range 40 {
		var row []impl.Sign
		for _, b := range []byte(mixedText(3+5*start, start)) {
			row = append(row, signs[int(b)%len(signs)])
		}
		rows = append(rows, row)
	}
	return rows
}

func TestSignsComeBackFromTheirTexts(t *testing.T) {
	for _, row := range rowsOfSigns() {
		isSigns(t, impl.SignText(row), row)
	}
}

func TestSignsComeBackFromWiderTexts(t *testing.T) {
	gaps := []string{" ", "\n", "  ", "\n\n", " \n", "\n ", "  \n\n  ", strings.Repeat(" ", 7)}
	for k, row := range rowsOfSigns() {
		for first := range gaps {
			wide := gaps[(first+k)%len(gaps)]
			for at, sign := range row {
				wide += impl.SignText([]impl.Sign{sign}) + gaps[(first+at)%len(gaps)]
			}
			if len(wide) > impl.MaxSource {
				t.Fatalf("a row of %d signs is too wide for this test", len(row))
			}
			isSigns(t, wide, row)
			isSigns(t, strings.TrimSpace(wide), row)
		}
	}
}

func TestSignsSideBySideAreTheRule(t *testing.T) {
	for _, row := range rowsOfSigns() {
		var close strings.Builder
		for _, sign := range row {
			close.WriteString(impl.SignText([]impl.Sign{sign}))
		}
		agreesWithTheRule(t, close.String())
	}
}

func agreesWithTheRule(t *testing.T, text string) {
	t.Helper()
	want, fits := signsByRule(text)
	if fits {
		isSigns(t, text, want)
		isSigns(t, impl.SignText(want), want)
	} else {
		refusesSigns(t, text)
	}
}

func TestSignsAreTheRule(t *testing.T) {
	for _, set := range []string{"a1=-> \n", "z9<+*A", "fn0({\x00", "let;:,\t\x80", "-=<>!"} {
		for _, text := range textsOver(set, 5) {
			agreesWithTheRule(t, text)
		}
	}
	for _, text := range textsOver(allBytes(), 2) {
		agreesWithTheRule(t, text)
	}
}

func TestWordsByLength(t *testing.T) {
	for n := 1; n <= 40; n++ {
		for _, text := range []string{strings.Repeat("a", n), strings.Repeat("z9", n)[:n], "a" + strings.Repeat("0", n-1), (strings.Repeat("while", n))[:n]} {
			for _, around := range [][2]string{{"", ""}, {" ", " "}, {"(", ")"}, {"1 ", "\n2"}, {"7", "=="}} {
				agreesWithTheRule(t, around[0]+text+around[1])
			}
			if n <= 8 {
				isSigns(t, text, []impl.Sign{word(text)})
			} else {
				refusesSigns(t, text)
				refusesSigns(t, "a "+text)
				refusesSigns(t, text+" a")
			}
		}
	}
}

func TestNumbersByLength(t *testing.T) {
	for _, c := range []struct {
		text string
		want int
	}{
		{"0", 0}, {"00", 0}, {"0000000000", 0}, {"0000000001", 1}, {"0000000010", 10}, {"0999999999", 999999999},
		{"999999999", 999999999}, {"1000000000", impl.MaxNumber}, {"9", 9}, {"123", 123}, {"0100000000", 100000000},
	} {
		isSigns(t, c.text, []impl.Sign{number(c.want)})
		isSigns(t, "x "+c.text+"y", []impl.Sign{word("x"), number(c.want), word("y")})
	}
	for _, text := range []string{"00000000000", "00000000001", "01000000000", "1000000001", "1000000010", "1999999999", "2000000000", "9999999999",
		"10000000000", "99999999999", "4294967296", "18446744073709551616", "18446744073709551617", "36893488147419103233", strings.Repeat("0", 40), strings.Repeat("9", 40)} {
		refusesSigns(t, text)
		refusesSigns(t, "x "+text)
		refusesSigns(t, text+" x")
		refusesSigns(t, text+"x")
	}
}

func TestTextsByLength(t *testing.T) {
	for _, piece := range []string{" ", "\n", "a ", "(", "==", "12 ", "ab+1;\n"} {
		text := strings.Repeat(piece, impl.MaxSource)[:impl.MaxSource]
		want, fits := signsByRule(text)
		if !fits {
			t.Fatalf("%d bytes of %q are no text for this test", impl.MaxSource, piece)
		}
		isSigns(t, text, want)
		isSigns(t, text[1:], mustSigns(t, text[1:]))
		for _, more := range []string{text + " ", " " + text, text + "\n", text + ";", text + text} {
			refusesSigns(t, more)
		}
	}
	refusesSigns(t, strings.Repeat(" ", impl.MaxSource+1))
	refusesSigns(t, strings.Repeat("!", impl.MaxSource))
	refusesSigns(t, strings.Repeat(" ", 100*impl.MaxSource))
}

func mustSigns(t *testing.T, text string) []impl.Sign {
	t.Helper()
	list, ok := signsByRule(text)
	if !ok {
		t.Fatalf("%.60q is no row of signs", text)
	}
	return list
}

func TestSignsRefuseOtherBytes(t *testing.T) {
	for b := range 256 {
		one := string([]byte{byte(b)})
		if strings.Contains(lowerLetters+"0123456789(){};:,&*=+< \n", one) {
			isSigns(t, one, mustSigns(t, one))
			continue
		}
		for _, text := range []string{one, one + "a", "a" + one, "a" + one + "b", "1" + one + "2", " " + one + " ", "a " + one + " b", one + one, "let a = 1;\n" + one, "=" + one, strings.Repeat(" ", impl.MaxSource-1) + one} {
			refusesSigns(t, text)
		}
	}
}

func TestSignsRefuseHalfArrows(t *testing.T) {
	for _, text := range []string{"-", "a - b", "a-b", "--", "-->", "- >", "-\n>", "->-", "-1", "a -", "- a", ">", "a > b", "=>", "==>", ">-", "<-", "->>", "-=", "=-"} {
		refusesSigns(t, text)
	}
}

func TestSignsRefuseOtherRunes(t *testing.T) {
	for _, r := range []string{"é", "ß", "æ", "€", "😀", "\ufffd", "\u00a0", "\u0085", "\u2028", "\ufeff", "１", "١", "ａ", "А", "－＞", "ı", "ſ", "K"} {
		for _, text := range []string{r, "a" + r, r + "a", "a " + r + " b", "1" + r, r + r, "->" + r} {
			refusesSigns(t, text)
		}
		for cut := 1; cut < len(r); cut++ {
			refusesSigns(t, r[:cut])
			refusesSigns(t, r[cut:])
			refusesSigns(t, "a "+r[:cut])
			refusesSigns(t, "a"+r[:cut]+"b")
			refusesSigns(t, r[cut:]+" a")
		}
	}
	for _, text := range []string{"\xed\xa0\x80", "\xc0\x80", "\xc1\xa1", "\xf8\x88\x80\x80\x80", "a\xe0\x80\xa1"} {
		refusesSigns(t, text)
	}
}

func TestSignTextForms(t *testing.T) {
	for _, c := range []struct {
		list []impl.Sign
		want string
	}{
		{nil, ""},
		{[]impl.Sign{}, ""},
		{[]impl.Sign{word("a")}, "a"},
		{[]impl.Sign{number(0)}, "0"},
		{[]impl.Sign{mark("->")}, "->"},
		{[]impl.Sign{word("let"), word("a1"), mark("="), mark("*"), word("b"), mark("+"), number(10), mark(";")}, "let a1 = * b + 10 ;"},
		{[]impl.Sign{mark("=="), mark("=")}, "== ="},
		{[]impl.Sign{number(1), number(impl.MaxNumber)}, "1 1000000000"},
	} {
		if got := impl.SignText(c.list); got != c.want {
			t.Errorf("SignText(%v) = %q; want %q", c.list, got, c.want)
		}
	}
}

// A number has its Num told, all others their Text, whatever else a sign holds.
func TestSignTextOfAnySigns(t *testing.T) {
	for _, c := range []struct {
		list []impl.Sign
		want string
	}{
		{[]impl.Sign{{}}, ""},
		{[]impl.Sign{{}, {}}, " "},
		{[]impl.Sign{{}, {}, {}}, "  "},
		{[]impl.Sign{{Kind: impl.SgNum, Text: "x", Num: 5}}, "5"},
		{[]impl.Sign{{Kind: impl.SgName, Text: "x", Num: 5}}, "x"},
		{[]impl.Sign{{Kind: impl.SgMark, Text: "+", Num: 5}}, "+"},
		{[]impl.Sign{{Kind: impl.SgNum, Num: -1}, {Kind: impl.SgNum, Num: math.MinInt}, {Kind: impl.SgNum, Num: math.MaxInt}}, "-1 -9223372036854775808 9223372036854775807"},
		{[]impl.Sign{{Kind: 0, Text: "a"}, {Kind: 4, Text: "b"}, {Kind: -1, Text: "c"}}, "a b c"},
		{[]impl.Sign{{Kind: impl.SgName, Text: "a b\n\xff"}, {Kind: impl.SgMark, Text: ""}}, "a b\n\xff "},
		{[]impl.Sign{{Kind: impl.SgName, Text: strings.Repeat("a", 5000)}, number(7)}, strings.Repeat("a", 5000) + " 7"},
	} {
		before := slices.Clone(c.list)
		if got := impl.SignText(c.list); got != c.want {
			t.Errorf("SignText(%.80v) = %.40q; want %.40q", c.list, got, c.want)
		}
		if !slices.Equal(before, c.list) {
			t.Errorf("SignText changes its argument %.80v", before)
		}
	}
}

func within(inner, outer string) bool {
	if inner == "" || outer == "" {
		return false
	}
	from := uintptr(unsafe.Pointer(unsafe.StringData(outer)))
	at := uintptr(unsafe.Pointer(unsafe.StringData(inner)))
	return from <= at && at < from+uintptr(len(outer))
}

func TestSignAnswersAreNewMemory(t *testing.T) {
	text := strings.Clone("fn abcdefgh(a: &mut box) -> int { ret 12345; } a")
	list, _ := impl.SignsOf(text)
	for _, sign := range list {
		if within(sign.Text, text) {
			t.Errorf("the sign %q shares its memory with the text", sign.Text)
		}
	}
	for _, s := range []string{"a", "abcdefgh", strings.Repeat("x", 100)} {
		one := []impl.Sign{word(strings.Clone(s))}
		if within(impl.SignText(one), one[0].Text) {
			t.Errorf("SignText shares its memory with the sign %q", s)
		}
	}
}
