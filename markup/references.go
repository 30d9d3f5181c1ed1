package markup

import (
	"strings"
	"unicode/utf8"
)

// resolve the references of a text or a value.
func resolve(s string) string {
	var out strings.Builder
	for {
		ahead, behind, found := strings.Cut(s, "&")
		out.WriteString(ahead)
		if !found {
			return out.String()
		}
		s = behind
		// A reference's body has no & itself: so what is looked through here is not looked through again for the next one.
		body := s[:bodyLength(s)]
		r, known := runeOf(body)
		if known && strings.HasPrefix(s[len(body):], ";") {
			out.WriteRune(r)
			s = s[len(body)+1:]
		} else {
			out.WriteByte('&')
		}
	}
}

// bodyLength: how many bytes at a text's beginning may be what stands between & and ; of a reference.
func bodyLength(s string) int {
	for i := range len(s) {
		if !letter(s[i]) && s[i] != '#' && (s[i] < '0' || s[i] > '9') {
			return i
		}
	}
	return len(s)
}

// runeOf a reference's body; false: it is none.
func runeOf(body string) (rune, bool) {
	switch body {
	case "amp":
		return '&', true
	case "lt":
		return '<', true
	case "gt":
		return '>', true
	case "quot":
		return '"', true
	case "apos":
		return '\'', true
	case "nbsp":
		return 0xA0, true
	case "shy":
		return 0xAD, true
	case "zwsp":
		return 0x200B, true
	}
	if !strings.HasPrefix(body, "#") {
		return 0, false
	}
	if strings.HasPrefix(body, "#x") || strings.HasPrefix(body, "#X") {
		return numbered(body[2:], 16)
	}
	return numbered(body[1:], 10)
}

// numbered: the rune that has a number; false: the digits are none of a number.
func numbered(digits string, base int) (rune, bool) {
	n := 0
	for i := range len(digits) {
		d := digit(digits[i])
		if d >= base {
			return 0, false
		}
		// A number that is too great stays so, whatever follows: it is held where nothing overflows.
		n = min(n*base+d, utf8.MaxRune+1)
	}
	if n == 0 || !utf8.ValidRune(rune(n)) {
		return utf8.RuneError, digits != ""
	}
	return rune(n), true
}

// digit's worth; one that is too great for any number, if it is none.
func digit(b byte) int {
	switch {
	case b >= '0' && b <= '9':
		return int(b - '0')
	case b >= 'a' && b <= 'f':
		return int(b-'a') + 10
	case b >= 'A' && b <= 'F':
		return int(b-'A') + 10
	}
	return 16
}
