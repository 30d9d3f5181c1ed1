package hit

import (
	"fmt"
	"strings"
	"testing"

	"casement/api"
	"casement/boxes"
	"casement/cascade"
	"casement/frame"
	"casement/markup"
	"casement/sheet"
	"casement/tree"
)

// base: what tests say of tags. Letters are 10 pixels high, and so are lines.
const base = "*{font-size:10px;line-height:10px}div,p{display:block}f{display:flex}g{display:grid}a{display:inline-block}h{display:block;overflow:hidden}"

// laid: the frame of a tree's first element, by the base and some rules.
func laid(t *testing.T, d *tree.Tree, rules string, width, height int) *frame.Frame {
	t.Helper()
	s, err := sheet.Read(base + rules)
	if err != nil {
		t.Fatal(err)
	}
	b := boxes.Make(d, d.Kids(0)[0], []cascade.Source{{Sheet: s}}, cascade.View{Width: width, Height: height})
	return frame.Lay(b, width, height)
}

// page of a markup, 100 by 80 pixels.
func page(t *testing.T, text, rules string) *frame.Frame {
	t.Helper()
	d, err := markup.Read(text)
	if err != nil {
		t.Fatal(err)
	}
	return laid(t, d, rules, 100*api.Unit, 80*api.Unit)
}

// px: a length in pixels, with what is left of it in parts.
func px(n int) string {
	pixels, parts := n>>6, n&63
	if parts == 0 {
		return fmt.Sprint(pixels)
	}
	return fmt.Sprintf("%d+%d", pixels, parts)
}

// shown: rects as a text.
func shown(l ...api.Rect) string {
	var all []string
	for _, r := range l {
		all = append(all, fmt.Sprintf("%s,%s,%s,%s", px(r.X), px(r.Y), px(r.W), px(r.H)))
	}
	return strings.Join(all, " ")
}

// shownAround: the least place around a node's rects, or nothing.
func shownAround(f *frame.Frame, id int) string {
	r, ok := Around(f, id)
	if !ok && r == (api.Rect{}) {
		return "none"
	}
	if !ok {
		return "none, but " + shown(r)
	}
	return shown(r)
}
