package impl

import (
	"strconv"
	"strings"
)

const (
	MaxText   = 20000
	MaxNumber = 1000000000
	MaxWords  = 600
	MaxParts  = 10
)

const (
	hexFigures  = "0123456789abcdef"
	longestVar  = 5
	mostFigures = 10
)

func VarText(n int) (string, bool) {
	if n < 0 || n > MaxNumber {
		return "", false
	}
	out := make([]byte, 0, longestVar)
	for n > 127 {
		out = append(out, byte(n%128+128))
		n /= 128
	}
	return string(append(out, byte(n))), true
}

func ReadVar(text string, at int) (int, int, bool) {
	if at < 0 || at > len(text) {
		return 0, 0, false
	}
	n, scale := 0, 1
	// No VarText has more than longestVar bytes, so looking no further keeps n from wrapping round.
	for i := at; i < len(text) && i-at < longestVar; i++ {
		b := int(text[i])
		n += b % 128 * scale
		scale *= 128
		if b > 127 {
			continue
		}
		// A last byte of 0 behind others adds nothing: that is a longer form of the number.
		if b == 0 && i > at || n > MaxNumber {
			return 0, 0, false
		}
		return n, i + 1, true
	}
	return 0, 0, false
}

func ShortText(s string) (string, bool) {
	if len(s) > MaxText {
		return "", false
	}
	head, ok := VarText(len(s))
	return head + s, ok
}

func ReadShort(text string, at int) (string, int, bool) {
	n, from, ok := ReadVar(text, at)
	if !ok || n > MaxText || n > len(text)-from {
		return "", 0, false
	}
	// A slice of a string shares its bytes; an answer is new memory.
	return strings.Clone(text[from : from+n]), from + n, true
}

func Hex(text string) (string, bool) {
	if len(text) > MaxText {
		return "", false
	}
	out := make([]byte, 0, 2*len(text))
	for i := range len(text) {
		out = append(out, hexFigures[text[i]/16], hexFigures[text[i]%16])
	}
	return string(out), true
}

func Unhex(text string) (string, bool) {
	if len(text)%2 != 0 || len(text) > 2*MaxText {
		return "", false
	}
	out := make([]byte, len(text)/2)
	at := 0
figures:
	for ; at < len(text); at++ {
		b := text[at]
		switch {
		case '0' <= b && b <= '9':
			b -= '0'
		case 'a' <= b && b <= 'f':
			b -= 'a' - 10
		default:
			break figures
		}
		out[at/2] = out[at/2]*16 + b
	}
	if at < len(text) {
		return "", false
	}
	return string(out), true
}

func Decimal(n int) string { return strconv.Itoa(n) }

func ReadDecimal(text string) (int, bool) {
	if text == "" || len(text) > mostFigures || text[0] == '0' && len(text) > 1 {
		return 0, false
	}
	n, at := 0, 0
figures:
	for ; at < len(text); at++ {
		switch b := text[at]; {
		case '0' <= b && b <= '9':
			n = n*10 + int(b-'0')
		default:
			break figures
		}
	}
	if at < len(text) || n > MaxNumber {
		return 0, false
	}
	return n, true
}

func PartsOf(line string) ([]string, bool) {
	if len(line) > MaxWords {
		return nil, false
	}
	var parts []string
	from := 0
	for at := 0; at <= len(line); at++ {
		if at < len(line) && (line[at] < 32 || line[at] > 126) {
			return nil, false
		}
		if at < len(line) && line[at] != ' ' {
			continue
		}
		if at > from {
			parts = append(parts, strings.Clone(line[from:at]))
		}
		from = at + 1
	}
	if len(parts) > MaxParts {
		return nil, false
	}
	return parts, true
}
