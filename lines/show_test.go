package lines

import (
	"fmt"
	"strings"
	"testing"

	"casement/api"
)

func run(text string) Item { return moded(0, text) }

func moded(mode int, text string) Item {
	return Item{Kind: api.IRun, Text: text, Size: 1000, High: -1, Mode: mode}
}

func open(w int) Item { return Item{Kind: api.IOpen, W: w} }

func shut(w int) Item { return Item{Kind: api.IClose, W: w} }

func atom(w, h int) Item { return Item{Kind: api.IAtom, W: w, H: h, Base: h} }

func forced() Item { return Item{Kind: api.IBreak} }

func list(l ...Item) []Item { return l }

// page: a paragraph so wide, of letters of 1000.
func page(width int) Para { return Para{Width: width, Size: 1000, High: -1} }

// lay a paragraph that has lines.
func lay(t *testing.T, p Para, l []Item) []Line {
	t.Helper()
	out, err := Lay(p, l)
	if err != nil {
		t.Fatalf("%+v %+v: %v", p, l, err)
	}
	return out
}

// word: a fragment's text; of an edge and an atom a sign.
func word(it Item, f Frag) string {
	switch it.Kind {
	case api.IOpen:
		return "<"
	case api.IClose:
		return ">"
	case api.IAtom:
		return "#"
	}
	return f.Text
}

// words: what stands in each line.
func words(t *testing.T, p Para, l []Item) string {
	t.Helper()
	var s []string
	for _, line := range lay(t, p, l) {
		u := ""
		for _, f := range line.Frags {
			u += word(l[f.Item], f)
		}
		s = append(s, u)
	}
	return strings.Join(s, "|")
}

// across: of each line where it begins, how wide it is, and the same of each fragment.
func across(t *testing.T, p Para, l []Item) string {
	t.Helper()
	var s []string
	for _, line := range lay(t, p, l) {
		u := fmt.Sprintf("%d+%d:", line.X, line.W)
		for _, f := range line.Frags {
			u += fmt.Sprintf(" %s %d+%d", word(l[f.Item], f), f.X, f.W)
		}
		s = append(s, u)
	}
	return strings.Join(s, "|")
}

// down: of each line where it begins, how high it is, where its base is.
func down(t *testing.T, p Para, l []Item) string {
	t.Helper()
	var s []string
	for _, line := range lay(t, p, l) {
		s = append(s, fmt.Sprintf("%d+%d base %d", line.Y, line.H, line.Base))
	}
	return strings.Join(s, "|")
}
