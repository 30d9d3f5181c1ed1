package tokens

import "strings"

// cutter cuts a text from the left.
type cutter struct {
	text string
	at   int
}

// Cut a text into its tokens.
func Cut(text string) []Token {
	c := cutter{text: text}
	var list []Token
	for c.passComments(); c.at < len(text); c.passComments() {
		from := c.at
		t := c.cut()
		t.From, t.To = from, c.at
		list = append(list, t)
	}
	return list
}

func (c *cutter) passComments() {
	for strings.HasPrefix(c.text[c.at:], "/*") {
		_, behind, _ := strings.Cut(c.text[c.at+2:], "*/")
		c.at = len(c.text) - len(behind)
	}
}

// take so many bytes.
func (c *cutter) take(size int) string {
	from := c.at
	c.at += size
	return c.text[from:c.at]
}

func (c *cutter) cut() Token {
	rest := c.text[c.at:]
	if size := run(rest, blank); size > 0 {
		c.take(size)
		return Token{Kind: Blanks}
	}
	if rest[0] == '"' || rest[0] == '\'' {
		return c.cutString()
	}
	if size := numberSize(rest); size > 0 {
		return c.cutNumber(size)
	}
	if size := nameSize(rest); size > 0 {
		return c.cutName(size)
	}
	sign := c.take(1)
	rest = rest[1:]
	if size := run(rest, inName); sign == "#" && size > 0 {
		return Token{Kind: Hash, Word: c.take(size)}
	}
	if size := nameSize(rest); sign == "@" && size > 0 {
		return Token{Kind: At, Word: c.take(size)}
	}
	return Token{Kind: Sign, Word: sign}
}

func (c *cutter) cutString() Token {
	from := c.at
	var word strings.Builder
	for stroke := c.take(1); c.at < len(c.text); {
		b := c.take(1)
		if b == stroke {
			break
		}
		if b == `\` {
			b = c.take(min(1, len(c.text)-c.at))
		}
		// A \ ahead of it does not save it: no string has this byte, and so each form can be read again.
		if b == "\n" {
			c.at--
			return Token{Kind: Bad, Word: c.text[from:c.at]}
		}
		word.WriteString(b)
	}
	return Token{Kind: String, Word: word.String()}
}

func (c *cutter) cutNumber(size int) Token {
	t := Token{Kind: Number, Word: c.take(size)}
	rest := c.text[c.at:]
	if strings.HasPrefix(rest, "%") {
		t.Kind = Part
		c.take(1)
	} else {
		t.Unit = Lower(c.take(nameSize(rest)))
	}
	return t
}

func (c *cutter) cutName(size int) Token {
	t := Token{Kind: Name, Word: c.take(size)}
	if strings.HasPrefix(c.text[c.at:], "(") {
		t.Kind = Function
		c.take(1)
	}
	return t
}

// numberSize: how many bytes the number has that a text begins with; 0: it begins with none.
func numberSize(text string) int {
	size := 0
	if strings.HasPrefix(text, "+") || strings.HasPrefix(text, "-") {
		size = 1
	}
	whole := run(text[size:], digit)
	size += whole
	if strings.HasPrefix(text[size:], ".") {
		if behind := run(text[size+1:], digit); behind > 0 {
			return size + 1 + behind
		}
	}
	if whole == 0 {
		return 0
	}
	return size
}

// nameSize: likewise, of a name.
func nameSize(text string) int {
	size := 0
	if strings.HasPrefix(text, "-") {
		size = 1
	}
	first := text[size:]
	if first == "" || !beginsName(first[0]) && !(size == 1 && first[0] == '-') {
		return 0
	}
	return size + run(first, inName)
}

// run: how many bytes of a sort a text begins with.
func run(text string, sort func(byte) bool) int {
	size := 0
	for size < len(text) && sort(text[size]) {
		size++
	}
	return size
}

func blank(b byte) bool {
	return b == 9 || b == 10 || b == 12 || b == 13 || b == 32
}

func digit(b byte) bool { return b >= '0' && b <= '9' }

func beginsName(b byte) bool {
	return b >= 'a' && b <= 'z' || b >= 'A' && b <= 'Z' || b == '_' || b >= 128
}

func inName(b byte) bool { return beginsName(b) || digit(b) || b == '-' }
