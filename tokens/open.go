package tokens

import "slices"

// Closer: the sign that closes what a token opens; empty, if it opens nothing.
func (t Token) Closer() string {
	switch {
	case t.Kind == Function, t.Is("("):
		return ")"
	case t.Is("["):
		return "]"
	case t.Is("{"):
		return "}"
	}
	return ""
}

// Closes: a token is a sign that may close something.
func (t Token) Closes() bool { return t.Is(")") || t.Is("]") || t.Is("}") }

// Partners: for each token that opens, the number of the one that closes it (how many tokens there are, if the end does); for each that closes, the number of what it closes (-1: nothing); for each other one, its own.
func Partners(list []Token) []int {
	partners := make([]int, len(list))
	var open []int
	for i, t := range list {
		partners[i] = i
		if t.Closer() != "" {
			partners[i] = len(list)
			open = append(open, i)
		} else if t.Closes() {
			partners[i] = -1
			if last := len(open) - 1; last >= 0 && list[open[last]].Closer() == t.Word {
				partners[i], partners[open[last]] = open[last], i
				open = open[:last]
			}
		}
	}
	return partners
}

// Closed: a list without the blanks at its ends, and with what closes what its end closes.
func Closed(list []Token) []Token {
	list = Trim(list)
	closed := slices.Clone(list)
	partners := Partners(list)
	for at := len(list) - 1; at >= 0; at-- {
		if partners[at] == len(list) {
			closed = append(closed, Token{Kind: Sign, Word: list[at].Closer()})
		}
	}
	return closed
}
