package frame

import (
	"casement/api"
	"casement/boxes"
)

// part of a page: a box, and what is known of it while the page is laid.
type part struct {
	*boxes.Box
	around *part // none: it is the root's
	within []*part
	reach  *reach             // none: it is not known yet
	table  *table             // none: it is not known yet
	laid   map[shape]*content // what it was laid as so far: boxes that lie deep would be laid for ever, if each one around them did so anew
	first  *Frame             // none: it has no frame yet
}

func partOf(b *boxes.Box, around *part) *part {
	p := &part{Box: b, around: around, laid: make(map[shape]*content)}
	for _, kid := range b.Kids {
		p.within = append(p.within, partOf(kid, p))
	}
	return p
}

// isText: a run or a break, whose place is its element's, not its own.
func (p *part) isText() bool { return p.Kind == api.BRun || p.Kind == api.BBreak }

// waits: it is laid when all else is.
func (p *part) waits() bool {
	return !p.isText() && (p.says(api.PPosition, "absolute") || p.says(api.PPosition, "fixed"))
}

// floats, where it does not share a row or tracks.
func (p *part) floats() bool { return !p.isText() && !p.says(api.PFloat, "none") }

func (p *part) isAside() bool { return p.waits() || p.floats() }

// isStrand: what lies in a block has a flow of its own.
func (p *part) isStrand() bool {
	return p.around == nil || p.Kind == api.BFlex || p.Kind == api.BGrid || p.says(api.POverflow, "hidden")
}

// inlines: the parts of a line in which a part lies, and itself, if it is one; the outermost first.
func (p *part) inlines() []*part {
	if p.Kind == api.BInline {
		return append(p.around.inlines(), p)
	}
	if p.isText() || p.Kind == api.BAtom {
		return p.around.inlines()
	}
	return nil
}
