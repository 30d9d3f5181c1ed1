package fresh

import (
	"casement/choose"
	"casement/sheet"
)

// asked: what styles ask of elements beside their tags and places: how often each attribute, and each name behind a `:`.
type asked struct{ attributes, names map[string]int }

// askedBy the selectors of sheets, whatever media they stand under.
func askedBy(sheets []*sheet.Sheet) asked {
	a := asked{map[string]int{"style": 1, "id": 1, "class": 1}, make(map[string]int)}
	for _, s := range sheets {
		for _, r := range s.Rules {
			if l, err := choose.Read(r.Head); err == nil {
				a.add(l)
			}
		}
	}
	return a
}

// add what a list asks.
func (a asked) add(l *choose.List) {
	attributes, names := l.Asked()
	for _, name := range attributes {
		a.attributes[name]++
	}
	for _, name := range names {
		a.names[name]++
	}
}
