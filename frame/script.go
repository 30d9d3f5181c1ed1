package frame

import (
	"casement/api"
	"casement/lines"
)

// script: the items of a paragraph, and the part that each is of.
type script struct {
	items []lines.Item
	parts []*part
	in    room
	atom  func(*part) lines.Item
}

// script of what lies in a part, in a room, where a function tells how wide and high atoms are.
func (p *part) script(in room, atom func(*part) lines.Item) *script {
	s := &script{in: in, atom: atom}
	s.all(p.within)
	return s
}

func (s *script) all(list []*part) {
	for _, p := range list {
		if !p.isAside() {
			s.add(p)
		}
	}
}

func (s *script) add(p *part) {
	switch p.Kind {
	case api.BRun:
		s.put(p, lines.Item{Kind: api.IRun, Text: p.Text, Size: p.fontSize(), High: p.lineHeight(), Mode: p.mode(), Rise: p.around.rises()})
	case api.BBreak:
		s.put(p, lines.Item{Kind: api.IBreak})
	case api.BInline:
		about := p.measure(s.in).about()
		s.put(p, lines.Item{Kind: api.IOpen, W: about.left})
		s.all(p.within)
		s.put(p, lines.Item{Kind: api.IClose, W: about.right})
	case api.BAtom:
		it := s.atom(p)
		it.Kind, it.Mode, it.Rise = api.IAtom, p.mode(), p.rise()+p.around.rises()
		s.put(p, it)
	}
}

func (s *script) put(p *part, it lines.Item) {
	s.parts = append(s.parts, p)
	s.items = append(s.items, it)
}

// eachAside: what is aside in a part and in the parts of lines in it, in order.
func (p *part) eachAside(do func(*part)) {
	for _, q := range p.within {
		if q.isAside() {
			do(q)
		} else if q.Kind == api.BInline {
			q.eachAside(do)
		}
	}
}
