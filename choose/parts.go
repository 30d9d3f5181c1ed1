package choose

import (
	"slices"
	"strings"

	"casement/tokens"
)

// part of a compound: something that an element is or is not.
type part interface {
	text() string
	weight() [3]int
	fits(s *search, id int) bool
}

type tag string

func (x tag) text() string { return string(x) }

func (x tag) weight() [3]int { return [3]int{0, 0, 1} }

func (x tag) fits(s *search, id int) bool { return s.tree.Tag(id) == string(x) }

type hash string

func (x hash) text() string { return "#" + string(x) }

func (x hash) weight() [3]int { return [3]int{1, 0, 0} }

func (x hash) fits(s *search, id int) bool {
	value, ok := s.tree.Attr(id, "id")
	return ok && value == string(x)
}

type class string

func (x class) text() string { return "." + string(x) }

func (x class) weight() [3]int { return [3]int{0, 1, 0} }

func (x class) fits(s *search, id int) bool {
	value, ok := s.tree.Attr(id, "class")
	return ok && hasWord(value, string(x))
}

// attribute that an element has, perhaps with a value that an op (one or two bytes) holds against a word.
type attribute struct{ name, op, word string }

func (x attribute) text() string {
	if x.op == "" {
		return "[" + x.name + "]"
	}
	word := tokens.Token{Kind: tokens.String, Word: x.word}
	return "[" + x.name + x.op + word.Text() + "]"
}

func (x attribute) weight() [3]int { return [3]int{0, 1, 0} }

func (x attribute) fits(s *search, id int) bool {
	value, ok := s.tree.Attr(id, x.name)
	return ok && x.holds(value)
}

// holds: a value is as op and word ask.
func (x attribute) holds(value string) bool {
	switch x.op {
	case "=":
		return value == x.word
	case "~=":
		return hasWord(value, x.word)
	case "|=":
		return value == x.word || strings.HasPrefix(value, x.word+"-")
	case "^=":
		return x.word != "" && strings.HasPrefix(value, x.word)
	case "$=":
		return x.word != "" && strings.HasSuffix(value, x.word)
	case "*=":
		return x.word != "" && strings.Contains(value, x.word)
	}
	return true
}

// hasWord: one of a value's words is that one.
func hasWord(value, word string) bool {
	for w := range strings.FieldsFuncSeq(value, isBlank) {
		if w == word {
			return true
		}
	}
	return false
}

func isBlank(r rune) bool { return strings.ContainsRune(blanks, r) }

// nth of the siblings, counted as its name says.
type nth struct {
	name string
	steps
}

func (x nth) text() string { return ":" + x.name + "(" + x.steps.text() + ")" }

func (x nth) weight() [3]int { return [3]int{0, 1, 0} }

func (x nth) fits(s *search, id int) bool {
	switch siblings := s.siblings(id); x.name {
	case "nth-last-child":
		return x.meet(len(siblings) - slices.Index(siblings, id))
	case "nth-of-type":
		return x.meet(slices.Index(s.kin(id), id) + 1)
	default:
		return x.meet(slices.Index(siblings, id) + 1)
	}
}

// nested list: of an element (not, is), or of what lies in it (has).
type nested struct {
	name string
	list []chain
}

func (x nested) text() string { return ":" + x.name + "(" + textOf(x.list) + ")" }

func (x nested) weight() [3]int { return greatest(x.list) }

func (x nested) fits(s *search, id int) bool {
	switch x.name {
	case "not":
		return !s.some(x.list, id)
	case "has":
		return slices.ContainsFunc(s.tree.Under(id)[1:], func(below int) bool { return s.some(x.list, below) })
	}
	return s.some(x.list, id)
}
