package markup

import (
	"slices"

	"casement/api"
	"casement/tree"
)

// grower makes a tree of pieces.
type grower struct {
	tree *tree.Tree
	open []int // the open elements, the innermost one last
	text int   // the text to which one that comes now is joined; 0: there is none
}

// grow the tree of a text.
func grow(text string) *tree.Tree {
	g := grower{tree: tree.New()}
	s := scanner{text: text}
	for p, more := s.next(); more; p, more = s.next() {
		g.take(p)
	}
	g.tree.Settle()
	return g.tree
}

func (g *grower) take(p piece) {
	switch p.kind {
	case words:
		g.say(p)
	case comment:
		id, err := g.tree.Comment(p.said)
		g.add(p, id, err)
	case startTag:
		if tree.Name(p.name) {
			g.start(p)
		}
	case endTag:
		g.shut([]string{p.name}, nil)
	}
}

func (g *grower) say(p piece) {
	if g.text != 0 {
		g.tree.Say(g.text, g.tree.Words(g.text)+p.said)
		return
	}
	id, err := g.tree.Text(p.said)
	g.add(p, id, err)
	g.text = id
}

func (g *grower) start(p piece) {
	g.shut(closing(p.name))
	id, err := g.tree.Element(p.name)
	g.add(p, id, err)
	for _, a := range p.attrs {
		if _, has := g.tree.Attr(id, a.Name); !has {
			g.tree.Set(id, a.Name, a.Value)
		}
	}
	if staysOpen(p.name, len(g.open)) {
		g.open = append(g.open, id)
	}
}

// staysOpen: an element is open behind its start tag, if so many others are.
func staysOpen(tag string, others int) bool {
	return !void(tag) && others < api.MaxDeep
}

// add what a piece has made as the last kid of the innermost open element. No length is too great for a node, as no text is: so an error tells that there are too many of them.
func (g *grower) add(p piece, id int, err error) {
	if err != nil {
		panic(tooMuch{&api.Fault{At: p.at, Err: api.ErrBound}})
	}
	parent := 0
	if len(g.open) > 0 {
		parent = g.open[len(g.open)-1]
	}
	g.tree.Put(parent, id, len(g.tree.Kids(parent)))
	g.text = 0
}

// shut the innermost open element of some tags, with all that is open in it, if none of others lies further in.
func (g *grower) shut(tags, upTo []string) {
	for i, id := range slices.Backward(g.open) {
		tag := g.tree.Tag(id)
		if slices.Contains(tags, tag) {
			g.open = g.open[:i]
			g.text = 0
			return
		}
		if slices.Contains(upTo, tag) {
			return
		}
	}
}
