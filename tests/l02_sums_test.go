package tests

import (
	"hash/crc32"
	"strings"
	"testing"
	"unsafe"

	"loop.example/g00423/impl"
)

// sumByRule adds bytes to a sum bit by bit, as the document words it.
func sumByRule(sum uint32, text string) uint32 {
	for i := range len(text) {
		sum ^= uint32(text[i])
		for range 8 {
			odd := sum%2 == 1
			sum /= 2
			if odd {
				sum ^= 3558460437
			}
		}
	}
	return sum
}

func sumBytes(sum uint32) string {
	return string([]byte{byte(sum >> 24), byte(sum >> 16), byte(sum >> 8), byte(sum)})
}

// mixedText gives a text of n bytes that hang on n and a start, without a pattern that repeats soon.
func mixedText(n, start int) string {
	out := make([]byte, n)
	state := uint32(start)*2654435761 + uint32(n) + 1
	for i := range out {
		state = state*1664525 + 1013904223
		out[i] = byte(state >> 24)
	}
	return string(out)
}

func sumTexts() []string {
	texts := append(textsOver(allBytes(), 1), allBytes(), "abc", "123456789", "box æ€",
		"\x00\x00", "\x00\x00\x00\x00", "\xff\xff\xff\xff", "\xff\xff\xff\xff\x00", "]\x1b_u")
	for n := range 40 {
		texts = append(texts, mixedText(n, 1), mixedText(n, 2))
	}
	return texts
}

func sumStarts() []uint32 {
	return []uint32{0, 1, 2, 15, 16, 127, 128, 255, 256, 65535, 65536, 1 << 24, 1<<31 - 1, 1 << 31, 3558460437, 3735928559, 4294967294, 4294967295}
}

// The sums of CRC-32/BASE91-D, which has this rule and turns every bit of what comes out.
func TestSumsKnownFromElsewhere(t *testing.T) {
	for _, c := range []struct {
		text string
		want uint32
	}{
		{"", 4294967295},
		{"123456789", 0x87315576 ^ 4294967295},
		{"\x00\x00\x00\x00", 0x45270551},
		{"\xff\xff\xff\xff", 0},
		{"]\x1b_u", 4294967295},
		{"\xff", 16777215},
		{"\x00", 2175125468},
		{"\x80", 1438387145},
		{"a", 2675860630},
		{"abc", 2815232641},
	} {
		if got := impl.SumOf(c.text); got != c.want {
			t.Errorf("SumOf(%q) = %d; want %d", c.text, got, c.want)
		}
	}
	table := crc32.MakeTable(3558460437)
	for _, text := range sumTexts() {
		if got, want := impl.SumOf(text), ^crc32.Checksum([]byte(text), table); got != want {
			t.Errorf("SumOf(%q) = %d; want %d", text, got, want)
		}
	}
}

func TestSumMoreOfOneByte(t *testing.T) {
	for _, c := range []struct {
		sum  uint32
		text string
		want uint32
	}{
		{0, "", 0},
		{1, "", 1},
		{4294967295, "", 4294967295},
		{0, "\x00", 0},
		{0, "\x80", 3558460437},
		{0, "\x40", 3558460437/2 ^ 3558460437},
		{128, "\x00", 3558460437},
		{128, "\x80", 0},
		{255, "\xff", 0},
		{256, "\x00", 1},
		{1 << 31, "\x00", 1 << 23},
		{4294967295, "\xff", 16777215},
	} {
		if got := impl.SumMore(c.sum, c.text); got != c.want {
			t.Errorf("SumMore(%d, %q) = %d; want %d", c.sum, c.text, got, c.want)
		}
	}
}

func TestSumMoreIsTheRule(t *testing.T) {
	texts := append(sumTexts(), mixedText(impl.MaxText, 3), mixedText(impl.MaxText+1, 3), mixedText(3*impl.MaxText, 4))
	for _, text := range texts {
		for _, sum := range sumStarts() {
			if got, want := impl.SumMore(sum, text), sumByRule(sum, text); got != want {
				t.Fatalf("SumMore(%d, %.20q) = %d; want %d", sum, text, got, want)
			}
		}
		if got, want := impl.SumOf(text), sumByRule(4294967295, text); got != want {
			t.Fatalf("SumOf(%.20q) = %d; want %d", text, got, want)
		}
	}
}

func TestSumMoreGoesOnWhereSumOfStopped(t *testing.T) {
	for _, text := range append(sumTexts(), mixedText(1000, 5)) {
		for cut := range len(text) + 1 {
			if got := impl.SumMore(impl.SumOf(text[:cut]), text[cut:]); got != impl.SumOf(text) {
				t.Fatalf("SumMore(SumOf(%.20q), ..) cut at %d = %d; the whole has %d", text, cut, got, impl.SumOf(text))
			}
		}
		for _, sum := range sumStarts() {
			half := len(text) / 2
			if impl.SumMore(impl.SumMore(sum, text[:half]), text[half:]) != impl.SumMore(sum, text) {
				t.Fatalf("SumMore(%d, %.20q) in two parts is not that of the whole", sum, text)
			}
		}
	}
}

func TestSealedIsUnsealed(t *testing.T) {
	for _, text := range append(sumTexts(), mixedText(impl.MaxText-1, 6), mixedText(impl.MaxText, 6),
		strings.Repeat("\xff", impl.MaxText), strings.Repeat("\x00", impl.MaxText)) {
		sealed, ok := impl.Sealed(text)
		if sealed != text+sumBytes(sumByRule(4294967295, text)) || !ok {
			t.Fatalf("Sealed(%.20q) is not the text and its sum, the highest byte first", text)
		}
		if got, ok := impl.Unsealed(sealed); got != text || !ok {
			t.Fatalf("Unsealed does not give back %.20q", text)
		}
		again, ok := impl.Sealed(sealed)
		if len(text) <= impl.MaxText-4 && ok {
			if got, ok := impl.Unsealed(again); got != sealed || !ok {
				t.Fatalf("Unsealed of %.20q, sealed twice, is not it sealed once", text)
			}
		}
	}
}

func TestSealedForms(t *testing.T) {
	for _, c := range []struct{ text, want string }{
		{"", "\xff\xff\xff\xff"},
		{"\xff", "\xff\x00\xff\xff\xff"},
		{"\xff\xff\xff\xff", "\xff\xff\xff\xff\x00\x00\x00\x00"},
		{"]\x1b_u", "]\x1b_u\xff\xff\xff\xff"},
		{"123456789", "123456789\x78\xce\xaa\x89"},
		{"abc", "abc\xa7\xcd\x0a\x81"},
	} {
		if got, ok := impl.Sealed(c.text); got != c.want || !ok {
			t.Errorf("Sealed(%q) = %q, %v; want %q, true", c.text, got, ok, c.want)
		}
		if got, ok := impl.Unsealed(c.want); got != c.text || !ok {
			t.Errorf("Unsealed(%q) = %q, %v; want %q, true", c.want, got, ok, c.text)
		}
	}
}

func turned(text string, at int, b byte) string {
	out := []byte(text)
	out[at] = b
	return string(out)
}

func refusesTurned(t *testing.T, sealed string, at int) {
	t.Helper()
	for b := range 256 {
		if byte(b) == sealed[at] {
			continue
		}
		if got, ok := impl.Unsealed(turned(sealed, at, byte(b))); got != "" || ok {
			t.Fatalf("Unsealed of %.20q, sealed in %d bytes, its byte %d turned to %d: %.20q, %v", sealed, len(sealed), at, b, got, ok)
		}
	}
}

func TestOneByteTurnedIsRefused(t *testing.T) {
	for _, text := range sumTexts() {
		sealed, _ := impl.Sealed(text)
		for at := range len(sealed) {
			refusesTurned(t, sealed, at)
		}
	}
}

func TestOneByteOfALongTextTurnedIsRefused(t *testing.T) {
	sealed, _ := impl.Sealed(mixedText(impl.MaxText, 7))
	for _, at := range []int{0, 1, impl.MaxText / 2, impl.MaxText - 1, impl.MaxText, impl.MaxText + 3} {
		refusesTurned(t, sealed, at)
	}
}

func TestSealedRefusesLongTexts(t *testing.T) {
	for _, n := range []int{impl.MaxText + 1, impl.MaxText + 4, 2 * impl.MaxText} {
		text := mixedText(n, 8)
		if got, ok := impl.Sealed(text); got != "" || ok {
			t.Errorf("Sealed takes %d bytes", n)
		}
		if got, ok := impl.Unsealed(text + sumBytes(sumByRule(4294967295, text))); got != "" || ok {
			t.Errorf("Unsealed takes %d bytes and their sum", n)
		}
	}
}

func TestUnsealedRefusesShortTexts(t *testing.T) {
	for _, text := range append(textsOver("\x00\x01\x80\xff", 3), textsOver(allBytes(), 2)...) {
		if got, ok := impl.Unsealed(text); got != "" || ok {
			t.Fatalf("Unsealed(%q) = %q, %v; want \"\", false", text, got, ok)
		}
	}
}

// A sum with every bit turned, or of another start, or of the text and more, is not the text's sum.
func TestUnsealedRefusesOtherSums(t *testing.T) {
	for _, text := range sumTexts() {
		sum := impl.SumOf(text)
		for _, other := range []uint32{^sum, sum + 1, sum - 1, sum ^ 1<<31, impl.SumMore(0, text), impl.SumOf(text + "\x00")} {
			if other == sum {
				continue
			}
			if got, ok := impl.Unsealed(text + sumBytes(other)); got != "" || ok {
				t.Errorf("Unsealed takes %q with the sum %d; want %d", text, other, sum)
			}
		}
	}
}

func TestUnsealedRefusesWrongTexts(t *testing.T) {
	for _, text := range sumTexts() {
		sealed, _ := impl.Sealed(text)
		for _, wrong := range []string{text, sealed[1:], sealed[:len(sealed)-1], sealed + "\x00", "\x00" + sealed, sealed[len(text):] + text} {
			if wrong == sealed || len(wrong) >= 4 && sumBytes(sumByRule(4294967295, wrong[:len(wrong)-4])) == wrong[len(wrong)-4:] {
				continue
			}
			if got, ok := impl.Unsealed(wrong); got != "" || ok {
				t.Errorf("Unsealed(%q) = %q, %v; want \"\", false", wrong, got, ok)
			}
		}
	}
}

// orders gives every order of the four bytes of s.
func orders(s string) []string {
	if len(s) <= 1 {
		return []string{s}
	}
	var all []string
	for i := range len(s) {
		for _, rest := range orders(s[:i] + s[i+1:]) {
			all = append(all, s[i:i+1]+rest)
		}
	}
	return all
}

func TestUnsealedRefusesOtherOrders(t *testing.T) {
	for _, text := range sumTexts() {
		sum := sumBytes(sumByRule(4294967295, text))
		for _, order := range orders(sum) {
			got, ok := impl.Unsealed(text + order)
			if order == sum && (got != text || !ok) || order != sum && (got != "" || ok) {
				t.Errorf("Unsealed of %q with the bytes of its sum as %q: %q, %v", text, order, got, ok)
			}
		}
	}
}

func TestUnsealedAgreesWithSealed(t *testing.T) {
	right := 0
	for _, text := range textsOver("\x00\x1b]_u\xff", 6) {
		got, ok := impl.Unsealed(text)
		if !ok {
			continue
		}
		right++
		if back, _ := impl.Sealed(got); back != text {
			t.Fatalf("Unsealed(%q) = %q, whose Sealed is %q", text, got, back)
		}
	}
	// Sealed of the empty text, and of one and two bytes of 255.
	if right != 3 {
		t.Errorf("Unsealed takes %d of these texts; want 3", right)
	}
}

func TestSumAnswersAreNewMemory(t *testing.T) {
	text := mixedText(100, 9)
	sealed, _ := impl.Sealed(text)
	got, _ := impl.Unsealed(sealed)
	if unsafe.StringData(got) == unsafe.StringData(sealed) || unsafe.StringData(sealed) == unsafe.StringData(text) {
		t.Error("an answer shares its memory with the argument")
	}
}
