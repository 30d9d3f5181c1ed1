package boxes

import (
	"casement/api"
	"casement/cascade"
	"casement/tree"
)

// maker of boxes as elements tell them, which are not put right yet.
type maker struct {
	counters
	tree   *tree.Tree
	styles map[int]*cascade.Style // by elements
}

// element: the boxes that one makes.
func (m *maker) element(id int) []*Box {
	style := m.styles[id]
	if style == nil || style.V[api.PDisplay].Text == "none" {
		return nil
	}
	display := style.V[api.PDisplay].Text
	m.count(style)
	// What lies in a break is gone through as well, though no box comes of it: it counts.
	kids := m.kids(id, style)
	switch {
	case display == "contents":
		return kids
	case m.tree.Tag(id) == "br":
		return []*Box{{Kind: api.BBreak, Node: id, Style: style}}
	}
	return []*Box{{Kind: kindOf(display), Node: id, Style: style, Kids: kids}}
}

// kindOf the box that a display makes.
func kindOf(display string) int {
	switch display {
	case "flex":
		return api.BFlex
	case "grid":
		return api.BGrid
	case "inline-block":
		return api.BAtom
	case "inline":
		return api.BInline
	}
	return api.BBlock
}

// kids of an element's box.
func (m *maker) kids(id int, style *cascade.Style) []*Box {
	var list []*Box
	run := func(node int, text string) {
		list = append(list, &Box{Kind: api.BRun, Node: node, Style: style, Text: text})
	}
	if text := m.marker(style); text != "" {
		run(id, text)
	}
	// A content without letters is one all the same.
	if text, ok := m.content(style); ok {
		run(id, text)
	}
	for _, kid := range m.tree.Kids(id) {
		switch m.tree.Kind(kid) {
		case api.Text:
			if text := m.tree.Words(kid); text != "" {
				run(kid, text)
			}
		case api.Element:
			list = append(list, m.element(kid)...)
		}
	}
	return list
}
