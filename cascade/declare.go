package cascade

import (
	"slices"

	"casement/choose"
	"casement/sheet"
)

// block: what a rule of a sheet declares.
type block struct {
	list   *choose.List // its head
	finder *choose.Finder
	base   bool // it is of a base source
	lines  []line
}

// line: what is declared of one property.
type line struct {
	Pair
	strong bool
}

// weight of a line: the greater one wins. It is told from the left: which sort of source it is of; whether it stands at the element itself; what its selector weighs.
type weight [5]int

func (l line) weight(base, here bool, head [3]int) weight {
	w := weight{1, 0, head[0], head[1], head[2]}
	switch {
	case l.strong && base:
		w[0] = 3
	case l.strong:
		w[0] = 2
	case base:
		w[0] = 0
	}
	if here {
		w[1] = 1
	}
	return w
}

// winner: what a property is told to be at last.
type winner struct {
	value  string
	weight weight
}

// blocksOf the rules that apply.
func (m *maker) blocksOf(l []Source, v View) []block {
	var blocks []block
	for _, s := range l {
		if s.Sheet == nil {
			continue
		}
		for _, r := range s.Sheet.Rules {
			list, err := choose.Read(r.Head)
			if err == nil && sheet.Applies(r.Media, v.Width, v.Height) {
				blocks = append(blocks, block{list: list, base: s.Base, lines: m.lines(r.Decls)})
			}
		}
	}
	return blocks
}

// lines of declarations that tell something.
func (m *maker) lines(decls []sheet.Decl) []line {
	var lines []line
	for _, d := range decls {
		for _, p := range m.parse(d.Name, d.Value) {
			lines = append(lines, line{p, d.Strong})
		}
	}
	return lines
}

// winners of all that is declared for an element, by the properties' names.
func (m *maker) winners(id int) map[string]winner {
	won := make(map[string]winner)
	for _, b := range m.blocks {
		if head, ok := b.finder.Greatest(id); ok {
			for _, l := range b.lines {
				l.try(won, l.weight(b.base, false, head))
			}
		}
	}
	if here, ok := m.tree.Attr(id, "style"); ok {
		for _, l := range m.lines(sheet.Declarations(here)) {
			l.try(won, l.weight(false, true, [3]int{}))
		}
	}
	return won
}

// try whether a line wins: of two that weigh the same, the later one does.
func (l line) try(won map[string]winner, w weight) {
	last, ok := won[l.Name]
	if !ok || w == last.weight || slices.Compare(w[:], last.weight[:]) > 0 {
		won[l.Name] = winner{l.Value, w}
	}
}
