package boxes

import (
	"fmt"
	"strings"
	"testing"

	"casement/api"
	"casement/cascade"
	"casement/markup"
	"casement/sheet"
	"casement/tree"
)

// base: what tests say of tags.
const base = "div,p{display:block}f{display:flex}g{display:grid}a{display:inline-block}c{display:contents}li{display:list-item}n{display:none}"

// letterOf a kind of boxes.
func letterOf(kind int) string {
	return map[int]string{api.BBlock: "B", api.BInline: "I", api.BRun: "T", api.BBreak: "/", api.BAtom: "A", api.BFlex: "F", api.BGrid: "G", api.BLines: "L"}[kind]
}

// shown: a box as a text: its kind and node, its text, and what lies in it.
func shown(b *Box) string {
	if b == nil {
		return "nil"
	}
	s := fmt.Sprint(letterOf(b.Kind), b.Node)
	if b.Kind == api.BRun {
		s += fmt.Sprintf("%q", b.Text)
	}
	var kids []string
	for _, kid := range b.Kids {
		kids = append(kids, shown(kid))
	}
	if len(kids) > 0 {
		s += "(" + strings.Join(kids, " ") + ")"
	}
	return s
}

func mustGrow(t *testing.T, text string) *tree.Tree {
	t.Helper()
	d, err := markup.Read(text)
	if err != nil {
		t.Fatal(err)
	}
	return d
}

func mustSource(t *testing.T, text string, isBase bool) cascade.Source {
	t.Helper()
	s, err := sheet.Read(text)
	if err != nil {
		t.Fatal(err)
	}
	return cascade.Source{Sheet: s, Base: isBase}
}

// made: the box of a markup's first element, by the base and some rules.
func made(t *testing.T, text, rules string) *Box {
	t.Helper()
	return Make(mustGrow(t, text), 1, []cascade.Source{mustSource(t, base, true), mustSource(t, rules, false)}, cascade.View{})
}

// page of a test: a markup, rules, and its boxes as they are shown.
type page struct{ text, rules, want string }

func holdPages(t *testing.T, pages []page) {
	t.Helper()
	for _, p := range pages {
		if got := shown(made(t, p.text, p.rules)); got != p.want {
			t.Errorf("%s with %q: %s, want %s", p.text, p.rules, got, p.want)
		}
	}
}

// find the first box that is shown so, with or without what lies in it.
func find(b *Box, what string) *Box {
	if s := shown(b); s == what || strings.HasPrefix(s, what+"(") {
		return b
	}
	for _, kid := range b.Kids {
		if got := find(kid, what); got != nil {
			return got
		}
	}
	return nil
}
