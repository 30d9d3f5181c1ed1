package markup

import (
	"slices"
	"strings"

	"casement/api"
	"casement/tree"
)

// speller writes what lies in a tree.
type speller struct {
	strings.Builder
	tree *tree.Tree
	open int // how many elements are open where the text has come to
}

// spell what lies in a node. (A tree may have what no text says; then this text is of another tree.)
func spell(t *tree.Tree, id int) string {
	s := speller{tree: t}
	s.kids(id)
	return s.String()
}

// put parts behind what is written.
func (s *speller) put(parts ...string) {
	for _, part := range parts {
		if s.Len()+len(part) > api.MaxText {
			panic(tooMuch{api.ErrShape})
		}
		s.WriteString(part)
	}
}

func (s *speller) kids(id int) {
	for _, kid := range s.tree.Kids(id) {
		switch s.tree.Kind(kid) {
		case api.Element:
			s.element(kid)
		case api.Text:
			s.quote(s.tree.Words(kid), '<')
		case api.Comment:
			s.put("<!--", s.tree.Words(kid), "-->")
		}
	}
}

func (s *speller) element(id int) {
	tag := s.tree.Tag(id)
	s.put("<", tag)
	for _, a := range s.tree.Attrs(id) {
		s.put(" ", a.Name, `="`)
		s.quote(a.Value, '"')
		s.put(`"`)
	}
	s.put(">")
	switch {
	case raw(tag):
		s.rawWords(id)
		s.put("</", tag, ">")
	case staysOpen(tag, s.open):
		s.open++
		s.kids(id)
		s.open--
		s.put("</", tag, ">")
	}
	// No end tag for one that is not open: it might close another one.
}

func (s *speller) rawWords(id int) {
	for _, kid := range s.tree.Kids(id) {
		s.put(s.tree.Words(kid))
	}
}

// quote a text that would end, or go over to something else, at a mark.
func (s *speller) quote(text string, mark byte) {
	from := 0
	for i := range len(text) {
		if text[i] == '&' || text[i] == mark {
			s.put(text[from:i], reference(text[i]))
			from = i + 1
		}
	}
	s.put(text[from:])
}

// reference that stands for a mark.
func reference(mark byte) string {
	switch mark {
	case '<':
		return "&lt;"
	case '"':
		return "&quot;"
	}
	return "&amp;"
}

// alike: two nodes have the same in them.
func alike(t *tree.Tree, id int, u *tree.Tree, other int) bool {
	return slices.EqualFunc(t.Kids(id), u.Kids(other), func(a, b int) bool {
		return t.Kind(a) == u.Kind(b) && t.Tag(a) == u.Tag(b) && t.Words(a) == u.Words(b) &&
			slices.Equal(t.Attrs(a), u.Attrs(b)) && alike(t, a, u, b)
	})
}
