package paint

import (
	"fmt"
	"strings"
	"testing"

	"casement/api"
	"casement/boxes"
	"casement/cascade"
	"casement/frame"
	"casement/markup"
	"casement/sheet"
	"casement/tree"
)

// base: what tests say of tags. Letters are 10 pixels high, and so are lines.
const base = "*{font-size:10px;line-height:10px}div,p{display:block}f{display:flex}g{display:grid}a{display:inline-block}h{display:block;overflow:hidden}"

// laid: the frame of a tree's first element, by the base and some rules.
func laid(t *testing.T, d *tree.Tree, rules string, width, height int) *frame.Frame {
	t.Helper()
	s, err := sheet.Read(base + rules)
	if err != nil {
		t.Fatal(err)
	}
	b := boxes.Make(d, d.Kids(0)[0], []cascade.Source{{Sheet: s}}, cascade.View{Width: width, Height: height})
	return frame.Lay(b, width, height)
}

// page of a markup, 100 by 80 pixels.
func page(t *testing.T, text, rules string) *frame.Frame {
	t.Helper()
	d, err := markup.Read(text)
	if err != nil {
		t.Fatal(err)
	}
	return laid(t, d, rules, 100*api.Unit, 80*api.Unit)
}

// px: a length in pixels, with what is left of it in parts.
func px(n int) string {
	pixels, parts := n>>6, n&63
	if parts == 0 {
		return fmt.Sprint(pixels)
	}
	return fmt.Sprintf("%d+%d", pixels, parts)
}

// shown: marks as a text: node, color, text, and where they lie.
func shown(l []Mark) string {
	var all []string
	for _, m := range l {
		text := ""
		if m.Text != "" {
			text = fmt.Sprintf("%q", m.Text)
		}
		all = append(all, fmt.Sprintf("%d#%x%s:%s,%s,%s,%s", m.Node, m.Color, text, px(m.Rect.X), px(m.Rect.Y), px(m.Rect.W), px(m.Rect.H)))
	}
	return strings.Join(all, " ")
}

// named: frames in order, by their nodes, or by their texts; `-` is one of no node.
func named(l []*sight) string {
	var all []string
	for _, s := range l {
		switch {
		case s.Kind == api.BRun:
			all = append(all, s.Text)
		case s.Node == 0:
			all = append(all, "-")
		default:
			all = append(all, fmt.Sprint(s.Node))
		}
	}
	return strings.Join(all, " ")
}

// nested: a tree of elements, each in the one ahead, or all of them in one.
func nested(t *testing.T, deep bool) *tree.Tree {
	t.Helper()
	d := tree.New()
	parent, err := d.Element("div")
	if err != nil {
		t.Fatal(err)
	}
	d.Put(0, parent, 0)
	for {
		id, err := d.Element("b")
		if err != nil {
			return d
		}
		if d.Put(parent, id, len(d.Kids(parent))) != nil {
			d.Undo()
			return d
		}
		if deep {
			parent = id
		}
	}
}
