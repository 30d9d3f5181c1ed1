package choose

import (
	"strconv"
	"strings"

	"casement/api"
	"casement/tokens"
)

// steps: a times n and b, of each n from 0 on.
type steps struct{ a, b int }

func (x steps) text() string {
	sign := "+"
	if x.b < 0 {
		sign = ""
	}
	return strconv.Itoa(x.a) + "n" + sign + strconv.Itoa(x.b)
}

// meet: one of the steps is at a place.
func (x steps) meet(place int) bool {
	way := place - x.b
	if x.a == 0 {
		return way == 0
	}
	return way%x.a == 0 && way/x.a >= 0
}

// formula that a text tells; false: it tells none.
func formula(text string) (steps, bool) {
	text = tokens.Lower(strings.Trim(text, blanks))
	if text == "odd" {
		return steps{2, 1}, true
	}
	if text == "even" {
		return steps{2, 0}, true
	}
	times, more, stepping := strings.Cut(text, "n")
	if !stepping {
		b, ok := whole(text)
		return steps{0, b}, ok
	}
	a, ok := readTimes(times)
	b, fine := readMore(more)
	return steps{a, b}, ok && fine
}

// readTimes: what stands ahead of n.
func readTimes(text string) (int, bool) {
	if text == "" || text == "+" || text == "-" {
		text += "1"
	}
	return whole(text)
}

// readMore: what stands behind n.
func readMore(text string) (int, bool) {
	if text == "" {
		return 0, true
	}
	text = strings.TrimLeft(text, blanks)
	if text[0] != '+' && text[0] != '-' {
		return 0, false
	}
	return whole(text[:1] + strings.TrimLeft(text[1:], blanks))
}

// whole number of digits, perhaps with a sign, and at most MaxNum in size.
func whole(text string) (int, bool) {
	digits, minus := strings.CutPrefix(text, "-")
	if !minus {
		digits = strings.TrimPrefix(text, "+")
	}
	n := 0
	for _, b := range []byte(digits) {
		// Held against the bound digit by digit, no number is too long to be held.
		if n = n*10 + int(b-'0'); b < '0' || b > '9' || n > api.MaxNum {
			return 0, false
		}
	}
	if minus {
		n = -n
	}
	return n, digits != ""
}
