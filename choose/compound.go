package choose

import (
	"strings"

	"casement/api"
	"casement/tokens"
)

// readCompound that stands behind a joint.
func (r *reader) readCompound(joint string) compound {
	if r.compounds == api.MaxItems && beginsCompound(r.peek()) {
		r.tooMuch()
	}
	c := compound{joint: joint, number: r.compounds}
	r.compounds++
	if t, ok := r.pass(kind(tokens.Name)); ok {
		c.parts = append(c.parts, tag(tokens.Lower(t.Word)))
	} else if _, ok := r.pass(sign("*")); !ok {
		c.parts = append(c.parts, r.readSimple())
	}
	for r.joined() && beginsSimple(r.peek()) {
		c.parts = append(c.parts, r.readSimple())
	}
	return c
}

func (r *reader) readSimple() part {
	if t, ok := r.pass(kind(tokens.Hash)); ok {
		return hash(t.Word)
	}
	switch r.want(sign(".[:")).Word {
	case ".":
		return class(r.want(r.behind(kind(tokens.Name))).Word)
	case "[":
		return r.readAttribute()
	}
	return r.readAsked()
}

// readAttribute behind its [.
func (r *reader) readAttribute() part {
	r.passBlanks()
	x := attribute{name: tokens.Lower(r.want(kind(tokens.Name)).Word)}
	r.passBlanks()
	if _, ok := r.pass(sign("]")); ok {
		return x
	}
	x.op = r.want(sign("=~|^$*")).Word
	if x.op != "=" {
		x.op += r.want(r.behind(sign("="))).Word
	}
	r.passBlanks()
	x.word = r.want(kind(tokens.Name, tokens.String)).Word
	r.passBlanks()
	r.want(sign("]"))
	return x
}

// readAsked: what a : asks of an element.
func (r *reader) readAsked() part {
	t := r.peek()
	name := tokens.Lower(t.Word)
	switch {
	case !r.joined():
	case t.Kind == tokens.Name && state(name).asked() != nil:
		r.at++
		return state(name)
	case t.Kind == tokens.Function && (name == "nth-child" || name == "nth-last-child" || name == "nth-of-type"):
		return nth{name, r.readFormula(t.To)}
	case t.Kind == tokens.Function && (name == "not" || name == "is" || name == "has" && !r.inHas):
		return r.readNested(name)
	}
	r.wrong()
	return nil
}

// readFormula of the bytes from one on, and pass its ).
func (r *reader) readFormula(from int) steps {
	said, _, closed := strings.Cut(r.text[from:], ")")
	x, ok := formula(said)
	if !closed {
		r.fail(len(r.text), api.ErrText)
	} else if !ok {
		r.fail(from, api.ErrText)
	}
	// What a formula may have makes no token that goes on behind it.
	for r.at < len(r.list) && r.peek().From <= from+len(said) {
		r.at++
	}
	return x
}

func (r *reader) readNested(name string) part {
	if r.deep == api.MaxDeep {
		r.tooMuch()
		return nil
	}
	r.at++
	outer := r.inHas
	r.deep, r.inHas = r.deep+1, outer || name == "has"
	x := nested{name: name, list: r.readList()}
	r.deep, r.inHas = r.deep-1, outer
	r.want(sign(")"))
	return x
}
