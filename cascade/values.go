package cascade

import "casement/tokens"

// value of a declaration that may have references in it.
type value struct {
	pieces []piece  // none, if it has a function var that is no reference
	names  []string // to which it refers, at whatever depth
	refers bool     // it has a function var, be it a reference or not
}

// piece of a value: what is told as it stands, or a reference.
type piece struct {
	told     tokens.Told // of what is no reference
	name     string      // of a reference
	falls    bool        // it has a fallback
	fallback []piece
}

// reader of a value's tokens.
type reader struct {
	list     []tokens.Token
	partners []int
}

func readValue(text string) *value {
	list := tokens.Closed(tokens.Cut(text))
	r := reader{list, tokens.Partners(list)}
	v := &value{}
	wrong := false
	for at, t := range list {
		if !isVar(t) {
			continue
		}
		v.refers = true
		if name, _, ok := r.reference(at); ok {
			v.names = append(v.names, name)
		} else {
			wrong = true
		}
	}
	if !wrong {
		v.pieces = r.pieces(0, len(list))
	}
	return v
}

// reference that a function var begins: its name, and where its name ends (at a comma, if it has a fallback, else at what closes it); false: it is none.
func (r reader) reference(at int) (string, int, bool) {
	first := r.passBlanks(at + 1)
	if t := r.list[first]; t.Kind != tokens.Name || !isOwn(t.Word) {
		return "", 0, false
	}
	end := r.passBlanks(first + 1)
	return r.list[first].Word, end, end == r.partners[at] || r.list[end].Is(",")
}

// passBlanks: the place of the first token that is none. (There is one: what closes a function is.)
func (r reader) passBlanks(at int) int {
	for r.list[at].Kind == tokens.Blanks {
		at++
	}
	return at
}

// pieces of tokens whose functions var are all references.
func (r reader) pieces(from, to int) []piece {
	var out []piece
	plain := from
	for at := from; at < to; at++ {
		if !isVar(r.list[at]) {
			continue
		}
		out = append(out, piece{told: tokens.Tell(r.list[plain:at])})
		name, end, _ := r.reference(at)
		p := piece{name: name}
		closer := r.partners[at]
		if end < closer {
			p.falls, p.fallback = true, r.pieces(end+1, closer)
		}
		out = append(out, p)
		at, plain = closer, closer+1
	}
	return append(out, piece{told: tokens.Tell(r.list[plain:to])})
}
