package tests

import (
	"math"
	"slices"
	"strings"
	"testing"

	"loop.example/g00423/impl"
)

// textsOver gives every text of the letters in set with at most most bytes.
func textsOver(set string, most int) []string {
	all := []string{""}
	longest := all
	for range most {
		var next []string
		for _, t := range longest {
			for i := range len(set) {
				next = append(next, t+set[i:i+1])
			}
		}
		all = append(all, next...)
		longest = next
	}
	return all
}

func allBytes() string {
	b := make([]byte, 256)
	for i := range b {
		b[i] = byte(i)
	}
	return string(b)
}

func TestVarTextForms(t *testing.T) {
	for _, c := range []struct {
		n    int
		want string
	}{
		{0, "\x00"},
		{1, "\x01"},
		{127, "\x7f"},
		{128, "\x80\x01"},
		{129, "\x81\x01"},
		{255, "\xff\x01"},
		{256, "\x80\x02"},
		{300, "\xac\x02"},
		{16383, "\xff\x7f"},
		{16384, "\x80\x80\x01"},
		{2097151, "\xff\xff\x7f"},
		{2097152, "\x80\x80\x80\x01"},
		{268435455, "\xff\xff\xff\x7f"},
		{268435456, "\x80\x80\x80\x80\x01"},
		{impl.MaxNumber, "\x80\x94\xeb\xdc\x03"},
	} {
		got, ok := impl.VarText(c.n)
		if got != c.want || !ok {
			t.Errorf("VarText(%d) = %q, %v; want %q, true", c.n, got, ok, c.want)
		}
	}
}

func TestVarTextRefuses(t *testing.T) {
	for _, n := range []int{-1, -128, math.MinInt, impl.MaxNumber + 1, math.MaxInt32, math.MaxInt} {
		if got, ok := impl.VarText(n); got != "" || ok {
			t.Errorf("VarText(%d) = %q, %v; want \"\", false", n, got, ok)
		}
	}
}

func varBack(t *testing.T, n int) {
	t.Helper()
	text, ok := impl.VarText(n)
	if !ok {
		t.Fatalf("VarText(%d) is false", n)
	}
	for _, ahead := range []string{"", "x", "\x80\x80"} {
		for _, behind := range []string{"", "\x00", "\xff"} {
			got, at, ok := impl.ReadVar(ahead+text+behind, len(ahead))
			if got != n || at != len(ahead)+len(text) || !ok {
				t.Fatalf("ReadVar(%q, %d) = %d, %d, %v; want %d", ahead+text+behind, len(ahead), got, at, ok, n)
			}
		}
	}
}

func TestVarTextIsReadBack(t *testing.T) {
	for n := range 40000 {
		varBack(t, n)
	}
	for power := 128; power < impl.MaxNumber; power *= 128 {
		for d := -2; d <= 2; d++ {
			varBack(t, power+d)
			varBack(t, 2*power+d)
		}
	}
	for n := 40000; n < impl.MaxNumber; n += 99991 {
		varBack(t, n)
	}
	varBack(t, impl.MaxNumber-1)
	varBack(t, impl.MaxNumber)
}

func TestReadVarRefuses(t *testing.T) {
	for _, c := range []struct {
		text string
		at   int
	}{
		{"", 0},
		{"", 1},
		{"", -1},
		{"\x05", 1},
		{"\x05", 2},
		{"\x05", -1},
		{"\x05", math.MinInt},
		{"\x05", math.MaxInt},
		{"\x80", 0},
		{"\xff\xff\xff\xff", 0},
		{"\x01\x80", 1},
		{"\x80\x00", 0},
		{"\x85\x00", 0},
		{"\xff\x00", 0},
		{"\xac\x82\x00", 0},
		{"\xac\x82\x80\x80\x00", 0},
		{"\x80\x80\x80\x80\x80\x00", 0},
		{"\x81\x94\xeb\xdc\x03", 0},
		{"\xff\xff\xff\xff\x03", 0},
		{"\x80\x94\xeb\xdc\x04", 0},
		{"\xff\xff\xff\xff\x7f", 0},
		{"\x80\x94\xeb\xdc\x83\x00", 0},
		{"\x80\x94\xeb\xdc\x83\x01", 0},
		{strings.Repeat("\x80", 9) + "\x01", 0},
		{strings.Repeat("\x80", 10) + "\x01", 0},
		{strings.Repeat("\xff", 30000), 0},
	} {
		n, at, ok := impl.ReadVar(c.text, c.at)
		if n != 0 || at != 0 || ok {
			t.Errorf("ReadVar(%.20q, %d) = %d, %d, %v; want 0, 0, false", c.text, c.at, n, at, ok)
		}
	}
}

// What ReadVar answers is held against VarText alone: its text stands there, or no number's does.
func TestReadVarAgreesWithVarText(t *testing.T) {
	texts := textsOver(allBytes(), 2)
	texts = append(texts, textsOver("\x00\x01\x03\x7f\x80\x81\xff", 6)...)
	for _, text := range texts {
		n, at, ok := impl.ReadVar(text, 0)
		if ok {
			if want, _ := impl.VarText(n); at > len(text) || text[:at] != want {
				t.Fatalf("ReadVar(%q, 0) = %d, %d, whose VarText is %q", text, n, at, want)
			}
			continue
		}
		value := 0
		for i := range len(text) {
			value += int(text[i]&127) << (7 * i)
			form, right := impl.VarText(value)
			if right && strings.HasPrefix(text, form) {
				t.Fatalf("ReadVar(%q, 0) is false, but VarText(%d) stands there", text, value)
			}
		}
	}
}

func TestShortTextIsReadBack(t *testing.T) {
	for _, s := range []string{
		"", "a", "box", "\x00", "\x80\x01", allBytes(), "æ€",
		strings.Repeat("x", 127), strings.Repeat("x", 128),
		strings.Repeat("\xff", 16383), strings.Repeat("\xff", 16384),
		strings.Repeat("y", impl.MaxText-1), strings.Repeat("y", impl.MaxText),
	} {
		head, _ := impl.VarText(len(s))
		short, ok := impl.ShortText(s)
		if short != head+s || !ok {
			t.Errorf("ShortText of %d bytes is not its length and them", len(s))
		}
		for _, ahead := range []string{"", "\x09", "ab"} {
			got, at, ok := impl.ReadShort(ahead+short+"more", len(ahead))
			if got != s || at != len(ahead)+len(short) || !ok {
				t.Errorf("ReadShort does not read back a text of %d bytes at %d", len(s), len(ahead))
			}
			got, at, ok = impl.ReadShort(ahead+short, len(ahead))
			if got != s || at != len(ahead)+len(short) || !ok {
				t.Errorf("ReadShort does not read back a text of %d bytes at %d, at the end", len(s), len(ahead))
			}
		}
	}
}

func TestShortTextRefuses(t *testing.T) {
	for _, n := range []int{impl.MaxText + 1, 2 * impl.MaxText} {
		if got, ok := impl.ShortText(strings.Repeat("y", n)); got != "" || ok {
			t.Errorf("ShortText takes %d bytes", n)
		}
	}
}

func TestReadShortRefuses(t *testing.T) {
	over, _ := impl.VarText(impl.MaxText + 1)
	most, _ := impl.VarText(impl.MaxNumber)
	for _, c := range []struct {
		text string
		at   int
	}{
		{"", 0},
		{"\x00", 1},
		{"\x00", 2},
		{"\x00", -1},
		{"\x00", math.MinInt},
		{"\x00", math.MaxInt},
		{"\x01", 0},
		{"\x03ab", 0},
		{"x\x03ab", 1},
		{"\x80", 0},
		{"\x80\x00", 0},
		{"\x81\x00a", 0},
		{over + strings.Repeat("y", impl.MaxText+1), 0},
		{over, 0},
		{most + "abc", 0},
		{"\xff\xff\xff\xff\x7fabc", 0},
	} {
		s, at, ok := impl.ReadShort(c.text, c.at)
		if s != "" || at != 0 || ok {
			t.Errorf("ReadShort(%.20q, %d) = %.20q, %d, %v; want \"\", 0, false", c.text, c.at, s, at, ok)
		}
	}
}

func TestHexForms(t *testing.T) {
	for _, c := range []struct{ text, want string }{
		{"", ""},
		{"\x00", "00"},
		{"\x0f", "0f"},
		{"\xf0", "f0"},
		{"\x9a", "9a"},
		{"\xff", "ff"},
		{"az", "617a"},
		{"\x01\x23\x45\x67\x89\xab\xcd\xef", "0123456789abcdef"},
	} {
		if got, ok := impl.Hex(c.text); got != c.want || !ok {
			t.Errorf("Hex(%q) = %q, %v; want %q, true", c.text, got, ok, c.want)
		}
		if got, ok := impl.Unhex(c.want); got != c.text || !ok {
			t.Errorf("Unhex(%q) = %q, %v; want %q, true", c.want, got, ok, c.text)
		}
	}
}

func TestHexIsReadBack(t *testing.T) {
	for _, text := range append(textsOver(allBytes(), 1), allBytes(),
		strings.Repeat("\x5e", impl.MaxText-1), strings.Repeat("\xe5", impl.MaxText)) {
		figures, ok := impl.Hex(text)
		if len(figures) != 2*len(text) || !ok {
			t.Errorf("Hex of %d bytes has %d, %v", len(text), len(figures), ok)
		}
		if got, ok := impl.Unhex(figures); got != text || !ok {
			t.Errorf("Unhex does not read back a text of %d bytes", len(text))
		}
	}
}

func TestHexRefuses(t *testing.T) {
	if got, ok := impl.Hex(strings.Repeat("a", impl.MaxText+1)); got != "" || ok {
		t.Error("Hex takes MaxText+1 bytes")
	}
	for _, text := range []string{
		"0", "f", "000", "6", "617", "FF", "fF", "Ff", "0A", "A0", "g0", "0g", "0x", " 00", "00 ", "0 ", " 0",
		"61\n", "6161zz", "zz6161", "61zz61", "\xff\xff", "0\x00", "æ", "/0", ":0", "`0", "0/", "0:", "0`",
		strings.Repeat("0", 2*impl.MaxText+1), strings.Repeat("0", 2*impl.MaxText+2),
	} {
		if got, ok := impl.Unhex(text); got != "" || ok {
			t.Errorf("Unhex(%.20q) = %.20q, %v; want \"\", false", text, got, ok)
		}
	}
}

func TestUnhexAgreesWithHex(t *testing.T) {
	right := 0
	for _, text := range textsOver(allBytes(), 2) {
		got, ok := impl.Unhex(text)
		if !ok {
			continue
		}
		right++
		if back, _ := impl.Hex(got); back != text {
			t.Fatalf("Unhex(%q) = %q, whose Hex is %q", text, got, back)
		}
	}
	if right != 257 {
		t.Errorf("Unhex takes %d texts of at most two bytes; want 257", right)
	}
}

func TestDecimalForms(t *testing.T) {
	for _, c := range []struct {
		n    int
		want string
	}{
		{0, "0"},
		{7, "7"},
		{10, "10"},
		{100, "100"},
		{1230, "1230"},
		{-1, "-1"},
		{-10, "-10"},
		{-905, "-905"},
		{impl.MaxNumber, "1000000000"},
		{impl.MaxNumber + 1, "1000000001"},
		{-impl.MaxNumber, "-1000000000"},
		{math.MaxInt, "9223372036854775807"},
		{math.MinInt + 1, "-9223372036854775807"},
		{math.MinInt, "-9223372036854775808"},
	} {
		if got := impl.Decimal(c.n); got != c.want {
			t.Errorf("Decimal(%d) = %q; want %q", c.n, got, c.want)
		}
	}
}

func TestDecimalIsReadBack(t *testing.T) {
	numbers := []int{impl.MaxNumber - 1, impl.MaxNumber, 999999999, 123456789}
	for n := range 20000 {
		numbers = append(numbers, n)
	}
	for n := 20000; n < impl.MaxNumber; n += 99991 {
		numbers = append(numbers, n)
	}
	for _, n := range numbers {
		if got, ok := impl.ReadDecimal(impl.Decimal(n)); got != n || !ok {
			t.Fatalf("ReadDecimal(%q) = %d, %v", impl.Decimal(n), got, ok)
		}
	}
}

func TestReadDecimalRefuses(t *testing.T) {
	for _, text := range []string{
		"", "-", "+", "-0", "+0", "-1", "+1", "00", "01", "007", "0000000001", "01000000000",
		"1000000001", "9999999999", "10000000000", "9223372036854775807", "9223372036854775808",
		"18446744073709551617", "-9223372036854775808", strings.Repeat("9", 100), strings.Repeat("0", 100),
		" 1", "1 ", "1 2", "1_0", "1,0", "1.0", "1e3", "0x1", "a", "1a", "a1", "/", ":", "1/", "1:", "1\x00", "\n1", "1\n", "١",
	} {
		if n, ok := impl.ReadDecimal(text); n != 0 || ok {
			t.Errorf("ReadDecimal(%.20q) = %d, %v; want 0, false", text, n, ok)
		}
	}
}

func TestReadDecimalAgreesWithDecimal(t *testing.T) {
	right := 0
	for _, text := range append(textsOver(allBytes(), 2), textsOver("0159-+ ", 6)...) {
		n, ok := impl.ReadDecimal(text)
		if !ok {
			continue
		}
		if impl.Decimal(n) != text {
			t.Fatalf("ReadDecimal(%q) = %d", text, n)
		}
		right++
	}
	// 0 .. 99, and 0 with 3 first figures behind each of which stand up to five of four.
	if want := 100 + 1 + 3*(1+4+16+64+256+1024); right != want {
		t.Errorf("ReadDecimal takes %d of these texts; want %d", right, want)
	}
}

func TestPartsOfForms(t *testing.T) {
	for _, c := range []struct {
		line string
		want []string
	}{
		{"", nil},
		{" ", nil},
		{strings.Repeat(" ", impl.MaxWords), nil},
		{"a", []string{"a"}},
		{" a", []string{"a"}},
		{"a ", []string{"a"}},
		{"  a  ", []string{"a"}},
		{"tick 1 2", []string{"tick", "1", "2"}},
		{" tick  1 2 ", []string{"tick", "1", "2"}},
		{"b a b", []string{"b", "a", "b"}},
		{"!~ #x", []string{"!~", "#x"}},
		{"1 2 3 4 5 6 7 8 9 10", []string{"1", "2", "3", "4", "5", "6", "7", "8", "9", "10"}},
		{"  1  2  3  4  5  6  7  8  9  10  ", []string{"1", "2", "3", "4", "5", "6", "7", "8", "9", "10"}},
		{strings.Repeat("x", impl.MaxWords), []string{strings.Repeat("x", impl.MaxWords)}},
		{strings.Repeat("x", impl.MaxWords-2) + " y", []string{strings.Repeat("x", impl.MaxWords-2), "y"}},
	} {
		got, ok := impl.PartsOf(c.line)
		if !slices.Equal(got, c.want) || !ok {
			t.Errorf("PartsOf(%.40q) = %.40q, %v; want %.40q, true", c.line, got, ok, c.want)
		}
	}
}

func TestPartsOfRefuses(t *testing.T) {
	for _, line := range []string{
		strings.Repeat("x", impl.MaxWords+1),
		strings.Repeat(" ", impl.MaxWords+1),
		"a" + strings.Repeat(" ", impl.MaxWords),
		"1 2 3 4 5 6 7 8 9 10 11",
		"1 2 3 4 5 6 7 8 9 10 11 ",
		strings.Repeat("a ", impl.MaxWords/2),
		"a\tb", "a\nb", "a\n", "\na", "\x00", "\x1f", "\x7f", "a \x7f", "\x80", "a b\xff", "é",
	} {
		if got, ok := impl.PartsOf(line); len(got) != 0 || ok {
			t.Errorf("PartsOf(%.40q) = %.40q, %v; want nothing, false", line, got, ok)
		}
	}
}

func TestPartsOfTakesBytes(t *testing.T) {
	for b := range 256 {
		_, ok := impl.PartsOf("a" + string([]byte{byte(b)}) + "c")
		if ok != (b >= 32 && b <= 126) {
			t.Errorf("PartsOf of a line with the byte %d: %v", b, ok)
		}
	}
}

func TestPartsOfIsWhatBlanksPart(t *testing.T) {
	for _, line := range textsOver(" ab", 8) {
		want := slices.DeleteFunc(strings.Split(line, " "), func(part string) bool { return part == "" })
		if got, ok := impl.PartsOf(line); !slices.Equal(got, want) || !ok {
			t.Fatalf("PartsOf(%q) = %q, %v", line, got, ok)
		}
	}
}

func TestPartsOfAnswersAreApart(t *testing.T) {
	first, _ := impl.PartsOf("a b c")
	second, _ := impl.PartsOf("a b c")
	first[0] = "x"
	if second[0] != "a" {
		t.Error("two answers share their memory")
	}
}
