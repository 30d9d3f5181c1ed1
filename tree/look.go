package tree

import (
	"slices"

	"casement/api"
)

// Kind of a node; 0: there is none.
func (t *Tree) Kind(id int) int {
	if !t.has(id) {
		return 0
	}
	return t.nodes[id].kind
}

// Tag of an element.
func (t *Tree) Tag(id int) string {
	if !t.has(id) {
		return ""
	}
	return t.nodes[id].tag
}

// Attr: an attribute's value, and whether there is one.
func (t *Tree) Attr(id int, name string) (string, bool) {
	if !t.has(id) {
		return "", false
	}
	n := &t.nodes[id]
	at := n.find(name)
	if at < 0 {
		return "", false
	}
	return n.attrs[at].Value, true
}

// Attrs: all of them.
func (t *Tree) Attrs(id int) []api.Attr {
	if !t.has(id) {
		return nil
	}
	return slices.Clone(t.nodes[id].attrs)
}

// Words of a text or comment.
func (t *Tree) Words(id int) string {
	if !t.has(id) {
		return ""
	}
	return t.nodes[id].words
}

// Parent of a node; -1: it has none.
func (t *Tree) Parent(id int) int {
	if !t.has(id) {
		return none
	}
	return t.nodes[id].parent
}

// Kids of a node.
func (t *Tree) Kids(id int) []int {
	if !t.has(id) {
		return nil
	}
	return slices.Clone(t.nodes[id].kids)
}

// Under: a node and all that lies in it.
func (t *Tree) Under(id int) []int {
	if !t.has(id) {
		return nil
	}
	return t.under(nil, id)
}

// under adds a node and all that lies in it to a list.
func (t *Tree) under(list []int, id int) []int {
	list = append(list, id)
	for _, kid := range t.nodes[id].kids {
		list = t.under(list, kid)
	}
	return list
}

// Size: how many nodes there are.
func (t *Tree) Size() int {
	if t == nil {
		return 0
	}
	return len(t.nodes)
}

// Order in which two nodes stand.
func (t *Tree) Order(a, b int) (int, bool) {
	if !t.has(a) || !t.has(b) {
		return 0, false
	}
	rootA, wayA := t.way(a)
	rootB, wayB := t.way(b)
	if rootA != rootB {
		return 0, false
	}
	// A way that goes on stands behind the one that it goes on from, as a kid stands behind its parent.
	return slices.Compare(wayA, wayB), true
}

// way from a node's root down to it: at each step, which of the kids.
func (t *Tree) way(id int) (root int, steps []int) {
	for t.nodes[id].parent != none {
		steps = append(steps, t.place(id))
		id = t.nodes[id].parent
	}
	slices.Reverse(steps)
	return id, steps
}
