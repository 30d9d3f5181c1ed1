package events

import (
	"iter"
	"slices"

	"casement/tree"
)

// Phases of an event.
const (
	falling = 1 + iota // on its way down to a node
	arrived            // at it
	rising             // on its way up from it
)

// sending of an event to the ears that are to hear it.
type sending struct {
	*Ears
	name   string
	calls  []Call
	barred bool // by an ear that is not calm
	ended  bool // it goes no further
}

// pass down a way that is told from its lower end on, and up again, if the event rises.
func (s *sending) pass(way []int, rises bool) {
	if len(way) == 0 {
		return
	}
	for _, node := range slices.Backward(way[1:]) {
		s.visit(node, falling, true)
	}
	s.visit(way[0], arrived, true, false)
	if !rises {
		return
	}
	for _, node := range way[1:] {
		s.visit(node, rising, false)
	}
}

// visit a node, if the event goes so far: its ears hear, by whether they are Down, in this order.
func (s *sending) visit(node, phase int, downs ...bool) {
	if s.ended {
		return
	}
	for _, down := range downs {
		for k, x := range s.at(node, s.name, down) {
			s.hear(k, node, phase, x)
			if x.Now {
				return
			}
		}
	}
}

// hear: an ear hears the event, and does what it does.
func (s *sending) hear(k, node, phase int, x Ear) {
	s.calls = append(s.calls, Call{Ear: k, Node: node, Phase: phase})
	s.barred = s.barred || x.Bar && !x.Calm
	s.ended = s.ended || x.Stop || x.Now
	if x.Once {
		s.Drop(k)
	}
}

// at: the ears at a node that hear events of a name on their way down (or those that do not), by their numbers.
func (e *Ears) at(node int, name string, down bool) iter.Seq2[int, Ear] {
	return func(yield func(int, Ear) bool) {
		for k, x := range e.ears {
			if x != nil && x.Node == node && x.Name == name && x.Down == down && !yield(k, *x) {
				return
			}
		}
	}
}

// way of a node: it, its parent, and so on to its root.
func way(t *tree.Tree, id int) iter.Seq[int] {
	return func(yield func(int) bool) {
		if t.Kind(id) == 0 {
			return
		}
		for node := id; node >= 0 && yield(node); {
			node = t.Parent(node)
		}
	}
}
