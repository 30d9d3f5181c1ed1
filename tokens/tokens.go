// Package tokens cuts texts of styles into tokens, and tells tokens in one form: see ../shared/doc/04-sheet.md. (Sheets, selectors and values are all read from them.)
package tokens

import "strings"

// Kinds of tokens.
const (
	Blanks   = iota
	String   // Word: its bytes
	Bad      // Word: as it stands
	Number   // Word: as it stands, without its Unit
	Part     // Word: as it stands, without its %
	Name     // Word: as it stands
	Function // Word: its name
	Hash     // Word: what stands behind #
	At       // Word: its name
	Sign     // Word: its one byte
)

// Token of a text: the bytes from From up to To.
type Token struct {
	Kind       int
	Word, Unit string // Unit: of a number, in small letters
	From, To   int
}

// Is: a token is that sign.
func (t Token) Is(sign string) bool { return t.Kind == Sign && t.Word == sign }

// Called: a token is of that kind and has that word (which is in small letters), its own letters being of any size.
func (t Token) Called(kind int, word string) bool { return t.Kind == kind && Lower(t.Word) == word }

// Text of a token, as the form has it.
func (t Token) Text() string {
	switch t.Kind {
	case Blanks:
		return " "
	case String:
		return stroked(t.Word, `"`)
	case Number:
		return t.Word + t.Unit
	case Part:
		return t.Word + "%"
	case Function:
		return t.Word + "("
	case Hash:
		return "#" + t.Word
	case At:
		return "@" + t.Word
	}
	return t.Word
}

// source of a token: a shortest text that is cut into it alone.
func (t Token) source() string {
	if t.Kind == String {
		if single := stroked(t.Word, `'`); len(single) < len(t.Text()) {
			return single
		}
	}
	return t.Text()
}

// stroked: a word between two strokes, with \ ahead of each stroke and \ in it.
func stroked(word, stroke string) string {
	return stroke + strings.NewReplacer(`\`, `\\`, stroke, `\`+stroke).Replace(word) + stroke
}

// Lower makes letters from A to Z small, and no others: a name's other bytes are as they stand.
func Lower(s string) string {
	bytes := []byte(s)
	for i, b := range bytes {
		if b >= 'A' && b <= 'Z' {
			bytes[i] = b + 'a' - 'A'
		}
	}
	return string(bytes)
}
