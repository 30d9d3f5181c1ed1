package markup

import "strings"

// atEnd: all of the text has been cut.
func (s *scanner) atEnd() bool { return s.at == len(s.text) }

// skip a mark, if it stands here; whether it does.
func (s *scanner) skip(mark string) bool {
	if !strings.HasPrefix(s.text[s.at:], mark) {
		return false
	}
	s.at += len(mark)
	return true
}

// pass the next mark; what lies ahead of it. Without one (false) that is the rest of the text.
func (s *scanner) pass(mark string) (string, bool) {
	ahead, behind, found := strings.Cut(s.text[s.at:], mark)
	s.at = len(s.text) - len(behind)
	return ahead, found
}

// take all bytes of a sort that stand here.
func (s *scanner) take(sort func(byte) bool) string {
	from := s.at
	for !s.atEnd() && sort(s.text[s.at]) {
		s.at++
	}
	return s.text[from:s.at]
}

func blank(b byte) bool {
	return b == 9 || b == 10 || b == 12 || b == 13 || b == 32
}

func letter(b byte) bool {
	return b >= 'a' && b <= 'z' || b >= 'A' && b <= 'Z'
}

// inTag: a byte may stand in a tag's name.
func inTag(b byte) bool { return !betweenAttrs(b) && b != '>' }

// inAttr: a byte may stand in an attribute's name.
func inAttr(b byte) bool { return inTag(b) && b != '=' }

// inValue: a byte may stand in a value without strokes.
func inValue(b byte) bool { return !blank(b) && b != '>' }

func betweenAttrs(b byte) bool { return blank(b) || b == '/' }

// lower makes letters from A to Z small, and no others: those of other scripts are of no name.
func lower(s string) string {
	bytes := []byte(s)
	for i, b := range bytes {
		if b >= 'A' && b <= 'Z' {
			bytes[i] = b + 'a' - 'A'
		}
	}
	return string(bytes)
}
