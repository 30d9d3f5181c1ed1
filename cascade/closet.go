package cascade

import (
	"casement/api"
	"casement/choose"
	"casement/tree"
)

// Closet has the styles of a tree's elements: each is worked out when it is asked for first, and is kept. While the tree or the state changes, nobody asks; then Turn tells what is still as it was.
type Closet struct{ maker *maker }

// NewCloset of a tree; nothing is in it.
func NewCloset(t *tree.Tree, l []Source, v View) *Closet {
	return &Closet{newMaker(t, l, v)}
}

// Style of an element, into which nobody may write, and how many were worked out for it: its own, and those of the elements around it. (Of what is no element: nothing.)
func (c *Closet) Style(id int) (Style, int) {
	m := c.maker
	if m.tree.Kind(id) != api.Element {
		return Style{}, 0
	}
	if one, ok := m.made[id]; ok {
		return one.style, 0
	}
	_, around := c.Style(m.tree.Parent(id))
	return m.make(id), around + 1
}

// Turn to the tree as it is now, and to a state: the styles of these elements are as they were, and so are those of the elements around them; all others are forgotten.
func (c *Closet) Turn(s choose.State, same []int) {
	old := c.maker.made
	c.maker.turn(s)
	for _, id := range same {
		if one, ok := old[id]; ok {
			c.maker.made[id] = one
		}
	}
}
