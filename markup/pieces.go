package markup

import (
	"strings"

	"casement/api"
	"casement/tree"
)

// Kinds of pieces.
const (
	nothing = iota
	words
	comment
	startTag
	endTag
)

// piece of a text.
type piece struct {
	kind, at int        // at: where it begins
	name     string     // a tag's
	said     string     // what a text or a comment says
	attrs    []api.Attr // a start tag's, perhaps several of one name
}

// scanner cuts a text into pieces.
type scanner struct {
	text string
	at   int
	raw  string // the raw element whose start tag came last, if its text is still to come
}

// next piece; false: there is none.
func (s *scanner) next() (piece, bool) {
	if s.atEnd() {
		return piece{}, false
	}
	from := s.at
	p := s.cut()
	p.at = from
	return p, true
}

func (s *scanner) cut() piece {
	if s.raw != "" {
		return s.cutRaw()
	}
	switch begins(s.text[s.at:]) {
	case comment:
		return s.cutComment()
	case startTag:
		return s.cutStartTag()
	case endTag:
		return s.cutEndTag()
	case words:
		return s.cutWords()
	}
	s.pass(">")
	return piece{}
}

// begins: the kind of the piece that a text begins with.
func begins(text string) int {
	switch {
	case strings.HasPrefix(text, "<!--"):
		return comment
	case strings.HasPrefix(text, "<!"), strings.HasPrefix(text, "<?"):
		return nothing
	case strings.HasPrefix(text, "</") && len(text) > 2 && letter(text[2]):
		return endTag
	case strings.HasPrefix(text, "<") && len(text) > 1 && letter(text[1]):
		return startTag
	}
	return words
}

func (s *scanner) cutComment() piece {
	s.skip("<!--")
	said, _ := s.pass("-->")
	return piece{kind: comment, said: said}
}

func (s *scanner) cutWords() piece {
	from := s.at
	for !s.atEnd() && begins(s.text[s.at:]) == words {
		s.at++
	}
	return piece{kind: words, said: resolve(s.text[from:s.at])}
}

// cutRaw: what a raw element says, which may be nothing.
func (s *scanner) cutRaw() piece {
	from, end := s.at, "</"+s.raw
	s.raw = ""
	for !s.atEnd() && !s.endsRaw(end) {
		s.at++
	}
	if s.at == from {
		return piece{}
	}
	return piece{kind: words, said: s.text[from:s.at]}
}

// endsRaw: here stands the end tag that a raw element's text goes up to.
func (s *scanner) endsRaw(end string) bool {
	rest := s.text[s.at:]
	if len(rest) < len(end) || lower(rest[:len(end)]) != end {
		return false
	}
	return len(rest) == len(end) || !inTag(rest[len(end)])
}

func (s *scanner) cutEndTag() piece {
	s.skip("</")
	name := lower(s.take(inTag))
	if _, whole := s.pass(">"); !whole {
		return piece{}
	}
	return piece{kind: endTag, name: name}
}

func (s *scanner) cutStartTag() piece {
	s.skip("<")
	p := piece{kind: startTag, name: lower(s.take(inTag))}
	for s.take(betweenAttrs); !s.skip(">"); s.take(betweenAttrs) {
		a, whole := s.cutAttr()
		if !whole {
			return piece{}
		}
		if tree.Name(a.Name) {
			p.attrs = append(p.attrs, a)
		}
	}
	if raw(p.name) {
		s.raw = p.name
	}
	return p
}

// cutAttr: an attribute; false: the text is at its end, and with it the tag.
func (s *scanner) cutAttr() (api.Attr, bool) {
	from := s.at
	s.skip("=")
	s.take(inAttr)
	a := api.Attr{Name: lower(s.text[from:s.at])}
	s.take(blank)
	if s.skip("=") {
		s.take(blank)
		a.Value = resolve(s.cutValue())
	}
	return a, !s.atEnd()
}

// cutValue: a value as it stands. (One without its second stroke goes up to the text's end, and is then of no matter.)
func (s *scanner) cutValue() string {
	for _, stroke := range []string{`"`, `'`} {
		if s.skip(stroke) {
			value, _ := s.pass(stroke)
			return value
		}
	}
	return s.take(inValue)
}
