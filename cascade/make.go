package cascade

import (
	"maps"
	"slices"
	"strings"

	"casement/api"
	"casement/choose"
	"casement/tokens"
	"casement/tree"
)

// maker of styles, each element's behind its parent's.
type maker struct {
	*book
	tree   *tree.Tree
	blocks []block
	read   map[string]*value // values that were read, by their texts
	texts  map[string]kept   // texts that were made
	made   map[int]made      // by elements
	top    made              // what stands for the parent of an element that has none
}

// made: what an element has.
type made struct {
	style Style
	vars  map[string]tokens.Told
}

func newMaker(t *tree.Tree, l []Source, v View) *maker {
	m := &maker{book: newBook(), tree: t}
	m.blocks = m.blocksOf(l, v)
	m.turn(v.State)
	first := wearer{maker: m}
	m.top = made{style: Style{V: first.values()}}
	return m
}

// turn to the tree as it is now, and to a state, of which nothing is known yet.
func (m *maker) turn(s choose.State) {
	m.read, m.texts, m.made = make(map[string]*value), make(map[string]kept), make(map[int]made)
	for i := range m.blocks {
		b := &m.blocks[i]
		b.finder = b.list.Finder(m.tree, s)
	}
}

// make an element's style. (Its parent's has been made, if it has one.)
func (m *maker) make(id int) Style {
	parent, ok := m.made[m.tree.Parent(id)]
	if !ok {
		parent = m.top
	}
	w := wearer{maker: m, won: m.winners(id), parent: parent.style.V}
	w.scope = m.scope(w.won, parent.vars)
	vars := w.settle()
	s := Style{V: w.values(), Vars: listed(vars)}
	setRight(s.V, !ok)
	m.made[id] = made{s, vars}
	return s
}

// value that a text is.
func (m *maker) value(text string) *value {
	v := m.read[text]
	if v == nil {
		v = readValue(text)
		m.read[text] = v
	}
	return v
}

// scope of an element for which something won, and to which something is handed down.
func (m *maker) scope(won map[string]winner, handed map[string]tokens.Told) scope {
	s := scope{own: make(map[string]*value), handed: handed, done: make(map[string]answer), texts: m.texts}
	for name, w := range won {
		if isOwn(name) {
			s.own[name] = m.value(w.value)
		}
	}
	return s
}

// listed: properties of the page's own, by name.
func listed(vars map[string]tokens.Told) []api.Attr {
	var list []api.Attr
	for _, name := range slices.Sorted(maps.Keys(vars)) {
		list = append(list, api.Attr{Name: name, Value: vars[name].Text})
	}
	return list
}

// wearer: an element whose properties are worked out.
type wearer struct {
	*maker
	scope
	won    map[string]winner
	parent []api.Value // none: of the first values
}

// values of all properties. Of the others some hang on the text's size and color.
func (w *wearer) values() []api.Value {
	values := make([]api.Value, api.Properties)
	s := scale{}
	if w.parent != nil {
		s.size = w.parent[api.PSize].N
	}
	values[api.PSize] = w.worth(api.PSize, s)
	values[api.PColor] = w.worth(api.PColor, s)
	s = scale{size: values[api.PSize].N, color: values[api.PColor].N}
	for at := range values {
		if at != api.PSize && at != api.PColor {
			values[at] = w.worth(at, s)
		}
	}
	return values
}

// worth of a property.
func (w *wearer) worth(at int, s scale) api.Value {
	r := w.rules[at]
	form := "unset"
	if winner, ok := w.won[r.name]; ok {
		form = w.filled(r.name, winner.value)
	}
	if form == "unset" && r.down {
		form = "inherit"
	}
	switch {
	case form == "inherit" && w.parent != nil:
		return w.parent[at]
	case form == "inherit", form == "initial", form == "unset":
		form = r.first
	}
	return s.worth(at, form)
}

// filled: what a property is told to be, its references filled in.
func (w *wearer) filled(name, text string) string {
	if !w.value(text).refers {
		return text
	}
	told := name
	if strings.HasPrefix(text, "?") {
		told, text, _ = strings.Cut(text[1:], ": ")
	}
	a := w.fill(w.value(text))
	// No value has more tokens than that: to read all of a text that does would take for ever, where many properties have it.
	if a.told.Count > api.MaxSpan {
		return "unset"
	}
	for _, p := range w.parse(told, a.told.Text) {
		if p.Name == name && !slices.ContainsFunc(tokens.Cut(p.Value), isVar) {
			return p.Value
		}
	}
	return "unset"
}

// setRight what does not go together with something else.
func setRight(values []api.Value, alone bool) {
	aside := oneOf(values[api.PPosition], "absolute", "fixed")
	if aside {
		values[api.PFloat].Text = "none"
	}
	if aside || alone || values[api.PFloat].Text != "none" {
		if oneOf(values[api.PDisplay], "inline", "inline-block") || alone && oneOf(values[api.PDisplay], "contents") {
			values[api.PDisplay].Text = "block"
		}
	}
}

// oneOf: a value is one of some words.
func oneOf(v api.Value, words ...string) bool { return slices.Contains(words, v.Text) }
