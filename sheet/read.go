package sheet

import (
	"slices"
	"strings"

	"casement/api"
	"casement/tokens"
)

// reader of a text's tokens. What it reads goes from one of their numbers up to another.
type reader struct {
	list     []tokens.Token
	partners []int // which token closes which
	rules    []Rule
	decls    int // how many there are in the rules
}

func newReader(text string) *reader {
	list := tokens.Cut(text)
	return &reader{list: list, partners: tokens.Partners(list)}
}

// next: where one of some signs stands in nothing that is open; to, if none does.
func (r *reader) next(from, to int, signs string) int {
	for at := from; at < to; at = max(at, r.partners[at]) + 1 {
		if t := r.list[at]; t.Kind == tokens.Sign && strings.Contains(signs, t.Word) {
			return at
		}
	}
	return to
}

// passBlanks: where the first token stands that is none.
func (r *reader) passBlanks(from, to int) int {
	for from < to && r.list[from].Kind == tokens.Blanks {
		from++
	}
	return from
}

func (r *reader) hasBad(from, to int) bool {
	return slices.ContainsFunc(r.list[from:to], func(t tokens.Token) bool { return t.Kind == tokens.Bad })
}

// block: a rule or AT as it stands.
type block struct {
	at   int // where it begins
	head int // where its head begins
	stop int // where its head ends: at {, or ; of an AT, or where all ends
	end  int // where what { opened ends; else stop
}

func (r *reader) block(at, to int) block {
	b := block{at: at, head: at}
	stops := "{"
	if r.list[at].Kind == tokens.At {
		b.head, stops = at+1, "{;"
	}
	b.stop = r.next(b.head, to, stops)
	b.end = b.stop
	if b.stop < to {
		b.end = min(r.partners[b.stop], to)
	}
	return b
}

// readRules that stand under a media head; within: they stand in what its { opened.
func (r *reader) readRules(from, to int, media string, within bool) error {
	for at := r.passBlanks(from, to); at < to; {
		b := r.block(at, to)
		if err := r.readBlock(b, media, within); err != nil {
			return err
		}
		at = r.passBlanks(b.end+1, to)
	}
	return nil
}

func (r *reader) readBlock(b block, media string, within bool) error {
	if b.stop == b.end || r.hasBad(b.head, b.stop) {
		return nil
	}
	if first := r.list[b.at]; first.Kind != tokens.At {
		return r.readRule(b, media)
	} else if first.Called(tokens.At, "media") && !within {
		return r.readRules(b.stop+1, b.end, r.head(b), true)
	}
	return nil
}

func (r *reader) head(b block) string { return tokens.Form(r.list[b.head:b.stop]) }

func (r *reader) readRule(b block, media string) error {
	if len(r.rules) == api.MaxRules {
		return r.tooMuch(b.at)
	}
	rule := Rule{Media: media, Head: r.head(b)}
	for at, d := range r.declarations(b.stop+1, b.end) {
		if r.decls == api.MaxDecls {
			return r.tooMuch(at)
		}
		r.decls++
		rule.Decls = append(rule.Decls, d)
	}
	r.rules = append(r.rules, rule)
	return nil
}

// tooMuch: the error of what begins with a token.
func (r *reader) tooMuch(at int) error {
	return &api.Fault{At: r.list[at].From, Err: api.ErrBound}
}
