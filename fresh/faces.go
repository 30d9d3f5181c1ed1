package fresh

import (
	"slices"

	"casement/api"
)

// document is the node that has the root; none is the root of a document without an element.
const (
	document = 0
	none     = -1
)

// root: the first element in the document; none: there is no such one.
func (p *Page) root() int {
	if tops := elementsOf(p.kids(document)); len(tops) > 0 {
		return tops[0].id
	}
	return none
}

// elements in the root, itself first.
func (p *Page) elements() []int {
	return slices.DeleteFunc(p.tree.Under(p.root()), func(id int) bool { return p.tree.Kind(id) != api.Element })
}

// kid of a node, but no comment: of its own, what boxes hang on.
type kid struct {
	id, kind   int
	tag, words string
}

// face of an element: what the page hangs on of it, beside its tag and where it stands. (What nobody asks for is not there.)
type face struct {
	kids  []kid
	attrs []api.Attr
	is    [3]bool // whether something points at it, whether it has the focus, whether it is empty
}

// look at the faces of all elements in the root, and at that of the document, of which its elements count.
func (p *Page) look() map[int]face {
	faces := map[int]face{document: {kids: elementsOf(p.kids(document))}}
	for _, id := range p.elements() {
		faces[id] = p.face(id)
	}
	return faces
}

func (p *Page) face(id int) face {
	f := face{kids: p.kids(id)}
	f.attrs = slices.DeleteFunc(p.tree.Attrs(id), func(a api.Attr) bool { return p.asked.attributes[a.Name] == 0 })
	f.is = [3]bool{
		p.asked.names["hover"] > 0 && slices.Contains(p.state.Hover, id),
		p.asked.names["focus"] > 0 && slices.Contains(p.state.Focus, id),
		p.asked.names["empty"] > 0 && len(f.kids) == 0,
	}
	return f
}

// kids of a node, but comments.
func (p *Page) kids(id int) []kid {
	var list []kid
	for _, at := range p.tree.Kids(id) {
		if kind := p.tree.Kind(at); kind != api.Comment {
			list = append(list, kid{at, kind, p.tree.Tag(at), p.tree.Words(at)})
		}
	}
	return list
}

func elementsOf(list []kid) []kid {
	return slices.DeleteFunc(slices.Clone(list), func(k kid) bool { return k.kind != api.Element })
}

// hasKids: two faces have the same kids.
func (f face) hasKids(other face) bool { return slices.Equal(f.kids, other.kids) }

// isLike: selectors see the same of two faces, but for the kids.
func (f face) isLike(other face) bool { return slices.Equal(f.attrs, other.attrs) && f.is == other.is }

// comparison of faces as they were with faces as they are.
type comparison struct {
	was, is map[int]face
	same    []int // elements whose styles are as they were
	differs bool  // some are not, or there are others
}

// compare what lies in a node. same: so far nothing differs that its kids' styles hang on.
func (c *comparison) compare(id int, same bool) {
	kids := elementsOf(c.is[id].kids)
	// Selectors count siblings from both ends: where there are others, each may be seen otherwise.
	same = same && slices.Equal(elementsOf(c.was[id].kids), kids)
	c.differs = c.differs || !same
	for _, k := range kids {
		// Else they look but at what stands ahead of an element, and at what it lies in: so what stands ahead of one that differs is as it was.
		same = same && c.was[k.id].isLike(c.is[k.id])
		if same {
			c.same = append(c.same, k.id)
		}
		c.compare(k.id, same)
	}
}
