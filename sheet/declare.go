package sheet

import (
	"iter"
	"slices"
	"strings"

	"casement/tokens"
)

// declarations, each with the number of its first token.
func (r *reader) declarations(from, to int) iter.Seq2[int, Decl] {
	return func(yield func(int, Decl) bool) {
		for at := from; at < to; {
			end := r.next(at, to, ";")
			first := r.passBlanks(at, end)
			if d, ok := r.declaration(first, end); ok && !yield(first, d) {
				return
			}
			at = end + 1
		}
	}
}

// declaration that is just these tokens; false: they are none.
func (r *reader) declaration(from, to int) (Decl, bool) {
	if from == to || r.list[from].Kind != tokens.Name {
		return Decl{}, false
	}
	colon := r.passBlanks(from+1, to)
	if colon == to || !r.list[colon].Is(":") {
		return Decl{}, false
	}
	d := Decl{Name: r.list[from].Word}
	if !strings.HasPrefix(d.Name, "--") {
		d.Name = tokens.Lower(d.Name)
	}
	value := tokens.Trim(r.list[colon+1 : to])
	closers := r.closers(colon+1, to)
	if len(closers) == 0 {
		value, d.Strong = cutImportant(value)
	}
	if len(value) == 0 || r.hasBad(colon+1, to) || slices.Contains(r.partners[colon+1:to], -1) {
		return Decl{}, false
	}
	d.Value = tokens.Form(slices.Concat(value, closers))
	return d, true
}

// closers of what the text's end closes.
func (r *reader) closers(from, to int) []tokens.Token {
	var list []tokens.Token
	for at := to - 1; at >= from; at-- {
		if r.partners[at] == len(r.list) {
			list = append(list, tokens.Token{Kind: tokens.Sign, Word: r.list[at].Closer()})
		}
	}
	return list
}

// cutImportant: a value without !important at its end, and whether it was there.
func cutImportant(value []tokens.Token) ([]tokens.Token, bool) {
	last := len(value) - 1
	if last < 0 || !value[last].Called(tokens.Name, "important") {
		return value, false
	}
	rest := tokens.Trim(value[:last])
	last = len(rest) - 1
	if last < 0 || !rest[last].Is("!") {
		return value, false
	}
	return tokens.Trim(rest[:last]), true
}
