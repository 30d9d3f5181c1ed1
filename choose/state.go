package choose

import (
	"slices"

	"casement/api"
)

// state that an element is in.
type state string

func (x state) text() string { return ":" + string(x) }

func (x state) weight() [3]int { return [3]int{0, 1, 0} }

func (x state) fits(s *search, id int) bool { return x.asked()(s, id) }

// asked: by what it is asked of an element whether it is in that state; nil: there is no such state.
func (x state) asked() func(s *search, id int) bool {
	switch x {
	case "root":
		return func(s *search, id int) bool { return s.tree.Parent(id) == 0 }
	case "empty":
		return (*search).empty
	case "first-child":
		return func(s *search, id int) bool { return first(s.siblings(id)) == id }
	case "last-child":
		return func(s *search, id int) bool { return last(s.siblings(id)) == id }
	case "only-child":
		return func(s *search, id int) bool { return len(s.siblings(id)) == 1 }
	case "first-of-type":
		return func(s *search, id int) bool { return first(s.kin(id)) == id }
	case "last-of-type":
		return func(s *search, id int) bool { return last(s.kin(id)) == id }
	case "hover":
		return func(s *search, id int) bool { return slices.Contains(s.state.Hover, id) }
	case "focus":
		return func(s *search, id int) bool { return slices.Contains(s.state.Focus, id) }
	}
	return nil
}

func first(list []int) int { return list[0] }

func last(list []int) int { return list[len(list)-1] }

// empty: an element has no kids but comments.
func (s *search) empty(id int) bool {
	return !slices.ContainsFunc(s.tree.Kids(id), func(kid int) bool { return s.tree.Kind(kid) != api.Comment })
}
