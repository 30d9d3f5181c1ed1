package choose

import (
	"slices"

	"casement/api"
	"casement/tree"
)

// What is known of a compound, with all that stands to its left, and an element.
const (
	open = iota
	fitting
	failing
)

// search of what a list fits in a tree, within one call.
type search struct {
	tree  *tree.Tree
	state State
	// What was found out is kept by the compounds' numbers and the elements': ways to the left of a chain meet so often that it would take for ever to go each of them to its end.
	found    [][]int8
	families map[int][]int // by their parents: elements that are siblings
}

func newSearch(t *tree.Tree, l *List, s State) *search {
	return &search{tree: t, state: s, found: make([][]int8, l.compounds), families: make(map[int][]int)}
}

// some chain of a list fits a node.
func (s *search) some(list []chain, id int) bool {
	return slices.ContainsFunc(list, func(c chain) bool { return s.fits(c, id) })
}

// fits: a node is an element that a chain fits.
func (s *search) fits(c chain, id int) bool {
	return s.isElement(id) && s.fitsElement(c, id)
}

func (s *search) isElement(id int) bool { return s.tree.Kind(id) == api.Element }

func (s *search) fitsElement(c chain, id int) bool {
	one := c[len(c)-1]
	if s.found[one.number] == nil {
		s.found[one.number] = make([]int8, s.tree.Size())
	}
	found := s.found[one.number]
	if found[id] == open {
		found[id] = failing
		if s.fitsParts(one.parts, id) && s.fitsLeft(c, id) {
			found[id] = fitting
		}
	}
	return found[id] == fitting
}

func (s *search) fitsParts(parts []part, id int) bool {
	return !slices.ContainsFunc(parts, func(p part) bool { return !p.fits(s, id) })
}

// fitsLeft: what stands ahead of a chain's last joint fits what this joint leads to from an element.
func (s *search) fitsLeft(c chain, id int) bool {
	at := len(c) - 1
	left := func(other int) bool { return s.fits(c[:at], other) }
	switch c[at].joint {
	case " ":
		return s.someAround(id, left)
	case ">":
		return left(s.tree.Parent(id))
	case "+":
		ahead := s.ahead(id)
		return len(ahead) > 0 && left(last(ahead))
	case "~":
		return slices.ContainsFunc(s.ahead(id), left)
	}
	return true
}

// someAround: it is so of some element in which a node lies.
func (s *search) someAround(id int, is func(int) bool) bool {
	for id = s.tree.Parent(id); s.isElement(id); id = s.tree.Parent(id) {
		if is(id) {
			return true
		}
	}
	return false
}

// siblings of an element, itself among them.
func (s *search) siblings(id int) []int {
	parent := s.tree.Parent(id)
	if parent < 0 {
		return []int{id}
	}
	if s.families[parent] == nil {
		s.families[parent] = slices.DeleteFunc(s.tree.Kids(parent), func(kid int) bool { return !s.isElement(kid) })
	}
	return s.families[parent]
}

// kin: siblings of an element's tag, itself among them.
func (s *search) kin(id int) []int {
	tag := s.tree.Tag(id)
	return slices.DeleteFunc(slices.Clone(s.siblings(id)), func(other int) bool { return s.tree.Tag(other) != tag })
}

// ahead: the siblings that stand ahead of an element.
func (s *search) ahead(id int) []int {
	siblings := s.siblings(id)
	return siblings[:slices.Index(siblings, id)]
}
