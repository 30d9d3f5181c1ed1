package choose

import (
	"slices"
	"strings"

	"casement/api"
	"casement/tokens"
)

// blanks are the bytes that part words.
const blanks = "\t\n\f\r "

// ending is the kind of what stands behind the last token.
const ending = -1

// reader of a text's tokens.
type reader struct {
	text      string
	list      []tokens.Token
	at        int
	compounds int        // how many there are so far
	deep      int        // how many lists are open within parts
	inHas     bool       // one of them is that of a has(
	fault     *api.Fault // the first one
}

func newReader(text string) *reader {
	return &reader{text: text, list: tokens.Cut(text)}
}

// fail: nothing is read any more, and so no other fault comes ahead of this one.
func (r *reader) fail(at int, err error) {
	if r.fault == nil {
		r.fault = &api.Fault{At: at, Err: err}
	}
	r.at = len(r.list)
}

// wrong: what comes next cannot stand here.
func (r *reader) wrong() { r.fail(r.peek().From, api.ErrText) }

// tooMuch: what comes next would be right, but is one too many.
func (r *reader) tooMuch() { r.fail(r.peek().From, api.ErrBound) }

// peek: the token that comes next.
func (r *reader) peek() tokens.Token {
	if r.at < len(r.list) {
		return r.list[r.at]
	}
	return tokens.Token{Kind: ending, From: len(r.text), To: len(r.text)}
}

// pass a token, if it is the one that is asked for.
func (r *reader) pass(is func(tokens.Token) bool) (tokens.Token, bool) {
	t := r.peek()
	if !is(t) {
		return t, false
	}
	r.at++
	return t, true
}

// want a token: another one is a fault.
func (r *reader) want(is func(tokens.Token) bool) tokens.Token {
	t, ok := r.pass(is)
	if !ok {
		r.wrong()
	}
	return t
}

// passBlanks: whether there were any.
func (r *reader) passBlanks() bool {
	from := r.at
	for r.peek().Kind == tokens.Blanks {
		r.at++
	}
	return r.at > from
}

// joined: nothing, not even a comment, stands between the last token and what comes next.
func (r *reader) joined() bool {
	return r.at > 0 && r.list[r.at-1].To == r.peek().From
}

// sign: what a token is asked for that is one of these signs.
func sign(signs string) func(tokens.Token) bool {
	return func(t tokens.Token) bool { return t.Kind == tokens.Sign && strings.Contains(signs, t.Word) }
}

// kind: what a token is asked for that is of one of these kinds.
func kind(kinds ...int) func(tokens.Token) bool {
	return func(t tokens.Token) bool { return slices.Contains(kinds, t.Kind) }
}

// behind: what a token is asked for that is right behind the last one.
func (r *reader) behind(is func(tokens.Token) bool) func(tokens.Token) bool {
	return func(t tokens.Token) bool { return r.joined() && is(t) }
}

// readList up to what cannot go on with it.
func (r *reader) readList() []chain {
	var list []chain
	for more := true; more; _, more = r.pass(sign(",")) {
		r.passBlanks()
		list = append(list, r.readChain())
	}
	return list
}

// readChain, and the blanks behind it.
func (r *reader) readChain() chain {
	c := chain{r.readCompound("")}
	for joint := r.readJoint(); joint != ""; joint = r.readJoint() {
		c = append(c, r.readCompound(joint))
	}
	return c
}

// readJoint with the blanks around it; empty: none stands here.
func (r *reader) readJoint() string {
	apart := r.passBlanks()
	if t, ok := r.pass(sign(">+~")); ok {
		r.passBlanks()
		return t.Word
	}
	if apart && beginsCompound(r.peek()) {
		return " "
	}
	return ""
}

func beginsCompound(t tokens.Token) bool {
	return t.Kind == tokens.Name || t.Is("*") || beginsSimple(t)
}

func beginsSimple(t tokens.Token) bool {
	return t.Kind == tokens.Hash || sign(".[:")(t)
}
