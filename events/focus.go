package events

import (
	"strconv"
	"strings"

	"casement/tree"
)

// lastTurn is the turn of those without a tabindex above 0: behind all that nine digits tell.
const lastTurn = 1_000_000_000

// turn at which a node takes the focus; not above 0: it takes no part.
func turn(t *tree.Tree, id int) int {
	text, told := t.Attr(id, "tabindex")
	n, part := whole(text)
	if !told {
		part = takesFocus(t, id)
	}
	switch {
	case !part || has(t, id, "disabled"):
		return 0
	case n == 0:
		return lastTurn
	}
	return n
}

// takesFocus: a node takes part though nothing is told of it.
func takesFocus(t *tree.Tree, id int) bool {
	switch t.Tag(id) {
	case "button", "input", "select":
		return true
	case "a":
		return has(t, id, "href")
	}
	return false
}

// has: a node has an attribute.
func has(t *tree.Tree, id int, name string) bool {
	_, ok := t.Attr(id, name)
	return ok
}

// whole number that a text is: one to nine digits, perhaps behind a minus.
func whole(text string) (int, bool) {
	digits := strings.TrimPrefix(text, "-")
	if len(digits) > 9 || strings.Trim(digits, "0123456789") != "" {
		return 0, false
	}
	// Without a digit there is an error.
	n, err := strconv.Atoi(text)
	return n, err == nil
}
