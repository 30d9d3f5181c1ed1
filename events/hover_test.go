package events

import (
	"math"
	"slices"
	"testing"

	"casement/choose"
	"casement/tree"
)

// holdHover of a node.
func holdHover(t *testing.T, d *tree.Tree, id int, want ...int) {
	t.Helper()
	if got := Hover(d, id); !slices.Equal(got, want) {
		t.Errorf("over %d: %v, want %v", id, got, want)
	}
}

// P153: of an element or text itself and the elements around it, from the innermost one on.
func TestHover(t *testing.T) {
	d := read(t, "<a><b>x<i></i></b><!--c-->y</a>z") // 1: a, 2: b, 3: x, 4: i, 5: c, 6: y, 7: z
	holdHover(t, d, 1, 1)
	holdHover(t, d, 2, 2, 1)
	holdHover(t, d, 3, 2, 1)
	holdHover(t, d, 4, 4, 2, 1)
	holdHover(t, d, 6, 1)
	holdHover(t, d, 7)
	for _, id := range []int{0, 5, 8, -1, math.MaxInt, math.MinInt} {
		holdHover(t, d, id)
		holdHover(t, nil, id)
	}
	holdHover(t, nil, 1)
	holdHover(t, tree.New(), 0)
}

// P153: also of what lies in no document, as it lies now.
func TestHoverNow(t *testing.T) {
	d := read(t, "<a><b>x<i></i></b></a>")
	d.Take(2)
	holdHover(t, d, 3, 2)
	holdHover(t, d, 4, 4, 2)
	d.Put(4, 3, 0)
	holdHover(t, d, 3, 4, 2)
	d.Take(3)
	holdHover(t, d, 3)
	d.Put(1, 2, 0)
	holdHover(t, d, 4, 4, 2, 1)
}

// P4, P53: what is answered is new, and is what selectors ask for.
func TestHoverState(t *testing.T) {
	d := read(t, "<a><b>x</b><i></i></a>")
	Hover(d, 3)[0] = 9
	holdHover(t, d, 3, 2, 1)
	l, err := choose.Read(":hover")
	if err != nil {
		t.Fatal(err)
	}
	if got := choose.Query(d, 0, l, choose.State{Hover: Hover(d, 3)}); !slices.Equal(got, []int{1, 2}) {
		t.Error(got)
	}
}
