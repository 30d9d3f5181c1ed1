package frame

import (
	"fmt"
	"strings"
	"testing"

	"casement/api"
	"casement/boxes"
	"casement/markup"
)

// letterOf a kind of frames.
func letterOf(kind int) string {
	return map[int]string{api.BBlock: "B", api.BInline: "I", api.BAtom: "A", api.BFlex: "F", api.BGrid: "G", api.BLines: "L"}[kind]
}

// px: a length in pixels, with what is left of it in parts.
func px(n int) string {
	pixels, parts := n>>6, n&63
	if parts == 0 {
		return fmt.Sprint(pixels)
	}
	return fmt.Sprintf("%d+%d", pixels, parts)
}

// shown: a frame as a text: its kind and node, or its text; where it lies; and what lies in it.
func shown(f *Frame) string {
	if f == nil {
		return "nil"
	}
	s := fmt.Sprint(letterOf(f.Kind), f.Node)
	if f.Kind == api.BRun {
		s = fmt.Sprintf("%q", f.Text)
	}
	s += ":" + px(f.Rect.X) + "," + px(f.Rect.Y) + "," + px(f.Rect.W) + "," + px(f.Rect.H)
	var kids []string
	for _, kid := range f.Kids {
		kids = append(kids, shown(kid))
	}
	if len(kids) > 0 {
		s += "(" + strings.Join(kids, " ") + ")"
	}
	return s
}

// made: the box of a markup's first element, by some rules. Letters are 10 pixels high, and so are lines.
func made(t *testing.T, text, rules string) *boxes.Box {
	t.Helper()
	d, err := markup.Read(text)
	if err != nil {
		t.Fatal(err)
	}
	return boxOf(t, d, "*{line-height:10px}"+rules)
}

// page of a test: a markup, rules, and its frames as they are shown, on a page of 100 by 80 pixels.
type pageOf struct{ text, rules, want string }

func holdPages(t *testing.T, pages []pageOf) {
	t.Helper()
	for _, p := range pages {
		if got := shown(Lay(made(t, p.text, p.rules), 100*api.Unit, 80*api.Unit)); got != p.want {
			t.Errorf("%s with %s:\n%s, want\n%s", p.text, p.rules, got, p.want)
		}
	}
}
