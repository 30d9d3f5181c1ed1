package tokens

import "strings"

// Form of tokens: the one text in which heads and values are told.
func Form(list []Token) string { return Tell(list).Text }

// Source of tokens: a shortest text that is cut into them (without blanks at its ends).
func Source(list []Token) string { return tell(list, Token.source).Text }

// Told: tokens in their form, with what must be known to tell others ahead of them or behind them.
type Told struct {
	Text          string // without blanks at its ends
	Count         int    // how many tokens it tells, blanks not among them
	first, last   Token  // of those that Text tells
	ahead, behind bool   // blanks stand there
}

// Tell tokens in their form.
func Tell(list []Token) Told { return tell(list, Token.Text) }

// Join: what is told, one behind the other, as one; blanks at its ends are left out.
func Join(pieces []Told) Told {
	if len(pieces) == 1 {
		one := pieces[0]
		one.ahead, one.behind = false, false
		return one
	}
	w := writer{text: Token.Text}
	for _, p := range pieces {
		w.add(p)
	}
	all := w.told()
	all.ahead, all.behind = false, false
	return all
}

func tell(list []Token, text func(Token) string) Told {
	w := writer{text: text}
	for _, t := range list {
		if t.Kind == Blanks {
			w.add(Told{ahead: true})
		} else {
			w.add(Told{Text: text(t), Count: 1, first: t, last: t})
		}
	}
	return w.told()
}

// writer tells tokens one behind the other, by the text of each.
type writer struct {
	text        func(Token) string
	out         strings.Builder
	count       int
	first, last Token
	ahead       bool // blanks stand ahead of all
	blank       bool // blanks stand behind what was told, or ahead of all
}

func (w *writer) told() Told {
	return Told{Text: w.out.String(), Count: w.count, first: w.first, last: w.last, ahead: w.ahead, behind: w.blank}
}

func (w *writer) add(t Told) {
	w.blank = w.blank || t.ahead
	w.count += t.Count
	first := w.out.Len() == 0
	if first {
		w.first, w.ahead = t.first, w.blank
	}
	if t.Text == "" {
		return
	}
	if !first {
		if w.blank {
			gap := Token{Kind: Blanks}
			w.part(gap)
			w.out.WriteString(gap.Text())
			w.last = gap
		}
		w.part(t.first)
	}
	w.out.WriteString(t.Text)
	w.last, w.blank = t.last, t.behind
}

// part the token that comes from the last one, if both would be read as others.
func (w *writer) part(t Token) {
	if !apart(w.last, t, w.text) {
		w.out.WriteString("/**/")
	}
}

// apart: the texts of two tokens, one behind the other, are read as these two.
func apart(a, b Token, text func(Token) string) bool {
	back := Cut(text(a) + text(b))
	return len(back) == 2 && alike(back[0], a) && alike(back[1], b)
}

// alike: two tokens say the same, wherever they stand.
func alike(a, b Token) bool {
	return a.Kind == b.Kind && a.Word == b.Word && a.Unit == b.Unit
}

// Trim: a list without the blanks at its ends.
func Trim(list []Token) []Token {
	for len(list) > 0 && list[0].Kind == Blanks {
		list = list[1:]
	}
	for len(list) > 0 && list[len(list)-1].Kind == Blanks {
		list = list[:len(list)-1]
	}
	return list
}
