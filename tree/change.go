package tree

import (
	"slices"

	"casement/api"
)

// Put a node among the kids of another one.
func (t *Tree) Put(parent, id, at int) error {
	if !t.has(parent) || !t.has(id) {
		return api.ErrNode
	}
	if id == 0 || !t.mayHaveKids(parent) || t.within(parent, id) {
		return api.ErrPlace
	}
	others := len(t.nodes[parent].kids)
	if t.nodes[id].parent == parent {
		others--
	}
	if at < 0 || at > others {
		return api.ErrPlace
	}
	t.keep(t.move(parent, id, at))
	return nil
}

// Take a node out.
func (t *Tree) Take(id int) error {
	if !t.has(id) {
		return api.ErrNode
	}
	if t.nodes[id].parent == none {
		return api.ErrPlace
	}
	t.keep(t.move(none, id, 0))
	return nil
}

func (t *Tree) mayHaveKids(id int) bool {
	kind := t.nodes[id].kind
	return kind == api.Document || kind == api.Element
}

// within: a node is another one, or lies in it.
func (t *Tree) within(id, outer int) bool {
	for id != outer && id != none {
		id = t.nodes[id].parent
	}
	return id == outer
}

// move a node to a place that it may have (no parent: it becomes a root); what moves it back.
func (t *Tree) move(parent, id, at int) func() {
	from, was := t.pull(id)
	t.push(parent, id, at)
	return func() {
		t.pull(id)
		t.push(from, id, was)
	}
}

// pull a node out of where it is; where that was.
func (t *Tree) pull(id int) (parent, at int) {
	parent = t.nodes[id].parent
	if parent == none {
		return none, 0
	}
	at = t.place(id)
	t.nodes[parent].kids = slices.Delete(t.nodes[parent].kids, at, at+1)
	t.nodes[id].parent = none
	return parent, at
}

// push a root among the kids of a parent, if there is one.
func (t *Tree) push(parent, id, at int) {
	if parent == none {
		return
	}
	t.nodes[parent].kids = slices.Insert(t.nodes[parent].kids, at, id)
	t.nodes[id].parent = parent
}

// place of a kid among its parent's kids.
func (t *Tree) place(id int) int {
	return slices.Index(t.nodes[t.nodes[id].parent].kids, id)
}

// Set an attribute.
func (t *Tree) Set(id int, name, value string) error {
	if err := t.wantElement(id); err != nil {
		return err
	}
	if !Name(name) {
		return api.ErrName
	}
	if len(value) > api.MaxText {
		return api.ErrBound
	}
	n := &t.nodes[id]
	at := n.find(name)
	if at < 0 {
		n.attrs = append(n.attrs, api.Attr{Name: name, Value: value})
		t.keep(func() {
			n := &t.nodes[id]
			n.attrs = slices.Delete(n.attrs, len(n.attrs)-1, len(n.attrs))
		})
		return nil
	}
	old := n.attrs[at].Value
	n.attrs[at].Value = value
	t.keep(func() { t.nodes[id].attrs[at].Value = old })
	return nil
}

// Unset an attribute.
func (t *Tree) Unset(id int, name string) error {
	if err := t.wantElement(id); err != nil {
		return err
	}
	n := &t.nodes[id]
	at := n.find(name)
	if at < 0 {
		return api.ErrName
	}
	old := n.attrs[at]
	n.attrs = slices.Delete(n.attrs, at, at+1)
	t.keep(func() { t.nodes[id].attrs = slices.Insert(t.nodes[id].attrs, at, old) })
	return nil
}

// wantElement: the error that tells that a number is no element's.
func (t *Tree) wantElement(id int) error {
	if !t.has(id) {
		return api.ErrNode
	}
	if t.nodes[id].kind != api.Element {
		return api.ErrPlace
	}
	return nil
}

// find an attribute's place; -1: there is none.
func (n *node) find(name string) int {
	return slices.IndexFunc(n.attrs, func(a api.Attr) bool { return a.Name == name })
}

// Say: a text or a comment has another text.
func (t *Tree) Say(id int, text string) error {
	if !t.has(id) {
		return api.ErrNode
	}
	if t.mayHaveKids(id) {
		return api.ErrPlace
	}
	if len(text) > api.MaxText {
		return api.ErrBound
	}
	old := t.nodes[id].words
	t.nodes[id].words = text
	t.keep(func() { t.nodes[id].words = old })
	return nil
}

// Copy a node with all that lies in it.
func (t *Tree) Copy(id int) (int, error) {
	if !t.has(id) {
		return 0, api.ErrNode
	}
	if id == 0 {
		return 0, api.ErrPlace
	}
	all := t.Under(id)
	if !t.room(len(all)) {
		return 0, api.ErrBound
	}
	t.keep(t.forget())
	return t.double(all), nil
}

// double a node, the first of a list that tells it and all that lies in it in order.
func (t *Tree) double(all []int) int {
	// The list puts parents ahead of kids, and kids in order: so a parent's double is there already when its kid comes, and the kid is its last one.
	twin := make(map[int]int, len(all))
	for i, old := range all {
		n := t.nodes[old]
		id := t.add(node{kind: n.kind, tag: n.tag, words: n.words, attrs: slices.Clone(n.attrs)})
		twin[old] = id
		if i > 0 {
			parent := twin[n.parent]
			t.push(parent, id, len(t.nodes[parent].kids))
		}
	}
	return twin[all[0]]
}
