package tokens

import "strings"

// Form of tokens: the one text in which heads and values are told.
func Form(list []Token) string { return tell(list, Token.Text) }

// Source of tokens: a shortest text that is cut into them (without blanks at its ends).
func Source(list []Token) string { return tell(list, Token.source) }

// tell tokens by the text of each.
func tell(list []Token, text func(Token) string) string {
	var out strings.Builder
	var last Token
	for i, t := range Trim(list) {
		if t.Kind == Blanks && last.Kind == Blanks {
			continue // a comment stood between them, or two lists met
		}
		if i > 0 && !apart(last, t, text) {
			out.WriteString("/**/")
		}
		out.WriteString(text(t))
		last = t
	}
	return out.String()
}

// apart: the texts of two tokens, one behind the other, are read as these two.
func apart(a, b Token, text func(Token) string) bool {
	back := Cut(text(a) + text(b))
	return len(back) == 2 && alike(back[0], a) && alike(back[1], b)
}

// alike: two tokens say the same, wherever they stand.
func alike(a, b Token) bool {
	return a.Kind == b.Kind && a.Word == b.Word && a.Unit == b.Unit
}

// Trim: a list without the blanks at its ends.
func Trim(list []Token) []Token {
	for len(list) > 0 && list[0].Kind == Blanks {
		list = list[1:]
	}
	for len(list) > 0 && list[len(list)-1].Kind == Blanks {
		list = list[:len(list)-1]
	}
	return list
}
