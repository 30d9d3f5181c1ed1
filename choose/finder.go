package choose

import (
	"slices"

	"casement/tree"
)

// Finder holds a list against the elements of one tree, again and again. What it finds out it keeps: so neither the tree nor the state may change while it is asked.
type Finder struct {
	*search
	chains  []chain
	weights [][3]int
}

// Finder of what the list fits.
func (l *List) Finder(t *tree.Tree, s State) *Finder {
	if l == nil {
		return &Finder{}
	}
	f := &Finder{search: newSearch(t, l, s), chains: l.chains}
	for _, c := range l.chains {
		f.weights = append(f.weights, c.weight())
	}
	return f
}

// Greatest weight of the selectors that fit an element; false: none does.
func (f *Finder) Greatest(id int) ([3]int, bool) {
	var most [3]int
	some := false
	for i, c := range f.chains {
		if w := f.weights[i]; (!some || slices.Compare(w[:], most[:]) > 0) && f.fits(c, id) {
			most, some = w, true
		}
	}
	return most, some
}
