package sheet

import "casement/tokens"

// page: how wide and high it is, in parts of a pixel.
type page struct{ width, height int }

// entries of a media text, without blanks at their ends.
func entries(list []tokens.Token) [][]tokens.Token {
	var out [][]tokens.Token
	from := 0
	for at, t := range list {
		if t.Is(",") {
			out = append(out, tokens.Trim(list[from:at]))
			from = at + 1
		}
	}
	return append(out, tokens.Trim(list[from:]))
}

// shows: an entry is so of the page.
func (p page) shows(entry []tokens.Token) bool {
	if len(entry) == 0 {
		return false
	}
	var holds bool
	var rest []tokens.Token
	if entry[0].Kind == tokens.Name {
		holds, rest = kindShown(entry[0]), entry[1:]
	} else {
		holds, rest = p.condition(entry)
	}
	for holds && len(rest) > 0 {
		holds, rest = p.condition(passAnd(rest))
	}
	return holds
}

// kindShown: a word that an entry may begin with, and that a page is.
func kindShown(t tokens.Token) bool {
	return t.Called(tokens.Name, "screen") || t.Called(tokens.Name, "all")
}

// passAnd: what stands behind an and with blanks around it; nothing, if none stands here.
func passAnd(list []tokens.Token) []tokens.Token {
	word := passBlanks(list)
	if len(word) == len(list) || len(word) == 0 || !word[0].Called(tokens.Name, "and") {
		return nil
	}
	rest := passBlanks(word[1:])
	if len(rest) == len(word[1:]) {
		return nil
	}
	return rest
}

func passBlanks(list []tokens.Token) []tokens.Token {
	for len(list) > 0 && list[0].Kind == tokens.Blanks {
		list = list[1:]
	}
	return list
}

// condition that a list begins with: whether it is one, and holds; and what stands behind it.
func (p page) condition(list []tokens.Token) (bool, []tokens.Token) {
	var said []tokens.Token
	for len(said) < 5 && len(list) > 0 {
		if list[0].Kind != tokens.Blanks {
			said = append(said, list[0])
		}
		list = list[1:]
	}
	if len(said) < 5 || !said[0].Is("(") || !said[2].Is(":") || !said[4].Is(")") {
		return false, nil
	}
	return p.holds(said[1], said[3]), list
}

// holds: what a condition names is as it says.
func (p page) holds(name, number tokens.Token) bool {
	thousandths, ok := number.Thousandths()
	if !ok || number.Unit != "px" {
		return false
	}
	length := tokens.Parts(thousandths)
	switch {
	case name.Called(tokens.Name, "min-width"):
		return length <= p.width
	case name.Called(tokens.Name, "max-width"):
		return length >= p.width
	case name.Called(tokens.Name, "min-height"):
		return length <= p.height
	case name.Called(tokens.Name, "max-height"):
		return length >= p.height
	}
	return false
}
