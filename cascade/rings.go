package cascade

import "math"

// ringer looks for rings of values that refer to each other.
type ringer struct {
	values map[string]*value
	turns  map[string]int // at which turn each was come to; MaxInt, once it is known whether it is in a ring
	open   []string       // those of which it is not known yet
	found  []string
}

// rings: the names of all values that are in one.
func rings(values map[string]*value) []string {
	r := ringer{values: values, turns: make(map[string]int)}
	for name := range values {
		r.visit(name)
	}
	return r.found
}

// visit a value, and all to which it leads: the least turn of those among them that are open.
func (r *ringer) visit(name string) int {
	if turn := r.turns[name]; turn > 0 {
		return turn
	}
	turn := len(r.turns) + 1
	r.turns[name] = turn
	place := len(r.open)
	r.open = append(r.open, name)
	least, leadsBack := turn, false
	for _, other := range r.values[name].names {
		if r.values[other] != nil {
			least = min(least, r.visit(other))
			leadsBack = leadsBack || other == name
		}
	}
	if least == turn {
		r.close(place, leadsBack)
	}
	return least
}

// close what was opened from a place on: these all lead to each other, and no other one does that is open.
func (r *ringer) close(place int, leadsBack bool) {
	group := r.open[place:]
	if len(group) > 1 || leadsBack {
		r.found = append(r.found, group...)
	}
	for _, name := range group {
		r.turns[name] = math.MaxInt
	}
	r.open = r.open[:place]
}
