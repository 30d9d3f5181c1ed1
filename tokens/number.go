package tokens

import (
	"strings"

	"casement/api"
)

// Thousandths of a number or part, whatever its unit; false: it is above MaxNum in size, or has more than three digits behind the point (or the token is neither).
func (t Token) Thousandths() (int, bool) {
	if t.Kind != Number && t.Kind != Part {
		return 0, false
	}
	whole, behind, _ := strings.Cut(strings.TrimLeft(t.Word, "+-"), ".")
	if len(behind) > 3 {
		return 0, false
	}
	n := 0
	for _, b := range []byte(whole + (behind + "000")[:3]) {
		n = n*10 + int(b-'0')
		// Held against the bound digit by digit, no number is too long to be held.
		if n > api.MaxNum*1000 {
			return 0, false
		}
	}
	if strings.HasPrefix(t.Word, "-") {
		n = -n
	}
	return n, true
}

// Parts of a pixel in thousandths of one, rounded down and at most MaxLen in size.
func Parts(thousandths int) int { return Share(api.Unit, thousandths, 1000) }

// Share of a length: n of as many as make it up, rounded down and at most MaxLen in size.
func Share(length, n, all int) int {
	product := length * n
	parts := product / all
	if product%all < 0 {
		parts--
	}
	return max(-api.MaxLen, min(parts, api.MaxLen))
}
