package cascade

import (
	"slices"
	"strings"

	"casement/api"
	"casement/tokens"
)

// parse a declaration; nothing, if it tells nothing.
func (b *book) parse(name, value string) []Pair {
	list := tokens.Trim(tokens.Cut(value))
	if len(list) == 0 {
		return nil
	}
	if isOwn(name) {
		return []Pair{{name, value}}
	}
	s := b.shape(name)
	if len(s.properties) == 0 {
		return nil
	}
	forms := b.forms(s, name, value, list)
	var pairs []Pair
	for i, form := range forms {
		pairs = append(pairs, Pair{b.rules[s.properties[i]].name, form})
	}
	return pairs
}

// isOwn: a name is that of a property of the page's own.
func isOwn(name string) bool { return strings.HasPrefix(name, "--") }

// forms of what a declaration's properties are told to be.
func (b *book) forms(s shape, name, value string, list []tokens.Token) []string {
	if slices.ContainsFunc(list, isVar) {
		if s.short {
			value = "?" + name + ": " + value
		}
		return slices.Repeat([]string{value}, len(s.properties))
	}
	words := wordsOf(list)
	if len(words) == 1 && words[0].oneOf("inherit initial unset") {
		return slices.Repeat([]string{tokens.Lower(words[0].Word)}, len(s.properties))
	}
	forms := s.read(words)
	if slices.Contains(forms, "") {
		return nil
	}
	return forms
}

// isVar: a token is a function var, a reference or not.
func isVar(t tokens.Token) bool { return t.Called(tokens.Function, "var") }

// shape of the declarations of a name.
type shape struct {
	properties []int
	read       func([]word) []string // the form of each property; empty where it may not be so; nothing, if none may
	short      bool                  // the name is a shorthand
}

func (b *book) shape(name string) shape {
	switch name {
	case "margin":
		return b.sides(api.PMarginTop)
	case "padding":
		return b.sides(api.PPaddingTop)
	case "border-width":
		return b.sides(api.PBorderTop)
	case "inset":
		return b.sides(api.PTop)
	case "border":
		return shape{[]int{api.PBorderTop, api.PBorderRight, api.PBorderBottom, api.PBorderLeft, api.PBorderColor}, b.border, true}
	case "background":
		return shape{[]int{api.PBackground}, b.single(api.PBackground), true}
	case "gap":
		return shape{[]int{api.PGapRow, api.PGapCol}, b.gap, true}
	case "flex":
		return shape{[]int{api.PGrow, api.PShrink, api.PBasis}, b.flex, true}
	}
	if at, ok := b.numbers[name]; ok {
		return shape{[]int{at}, b.single(at), false}
	}
	return shape{}
}

// single reads what one property is told to be.
func (b *book) single(at int) func([]word) []string {
	return func(words []word) []string { return []string{b.rules[at].read(words)} }
}

// each word's form, as a property has it.
func (b *book) each(at int, words []word) []string {
	var forms []string
	for _, w := range words {
		forms = append(forms, b.rules[at].one(w))
	}
	return forms
}

// sides: four properties that are alike, the first of them at the top.
func (b *book) sides(top int) shape {
	read := func(words []word) []string {
		f := b.each(top, words)
		switch len(f) {
		case 1:
			return []string{f[0], f[0], f[0], f[0]}
		case 2:
			return []string{f[0], f[1], f[0], f[1]}
		case 3:
			return []string{f[0], f[1], f[2], f[1]}
		case 4:
			return f
		}
		return nil
	}
	return shape{[]int{top, top + 1, top + 2, top + 3}, read, true}
}

func (b *book) gap(words []word) []string {
	f := b.each(api.PGapRow, words)
	switch len(f) {
	case 1:
		return []string{f[0], f[0]}
	case 2:
		return f
	}
	return nil
}

func (b *book) border(words []word) []string {
	width, color := "", ""
	for _, w := range words {
		if form := b.rules[api.PBorderTop].one(w); form != "" && width == "" {
			width = form
		} else if form := b.rules[api.PBorderColor].one(w); form != "" && color == "" {
			color = form
		} else {
			return nil
		}
	}
	if width == "" && color == "" {
		return nil
	}
	if width == "" {
		width = b.rules[api.PBorderTop].first
	}
	if color == "" {
		color = b.rules[api.PBorderColor].first
	}
	return []string{width, width, width, width, color}
}

func (b *book) flex(words []word) []string {
	if len(words) == 1 && words[0].oneOf("none") {
		return []string{"0", "0", "auto"}
	}
	if len(words) == 1 && words[0].oneOf("auto") {
		return []string{"1", "1", "auto"}
	}
	if len(words) == 0 {
		return nil
	}
	grow, shrink, basis := b.rules[api.PGrow].one(words[0]), "1", "0px"
	rest := words[1:]
	if len(rest) > 0 && b.rules[api.PShrink].one(rest[0]) != "" {
		shrink, rest = b.rules[api.PShrink].one(rest[0]), rest[1:]
	}
	if len(rest) > 0 && !rest[0].bare() {
		basis, rest = b.rules[api.PBasis].one(rest[0]), rest[1:]
	}
	if len(rest) > 0 {
		return nil
	}
	return []string{grow, shrink, basis}
}
