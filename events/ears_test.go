package events

import (
	"math"
	"strings"
	"testing"

	"casement/api"
)

// P150: numbers from 0 on; what is no ear has none, and takes none.
func TestAdd(t *testing.T) {
	e := New()
	most := strings.Repeat("x", api.MaxName)
	for at, c := range []struct {
		x    Ear
		want int
	}{
		{Ear{Node: 1, Name: "x"}, 0},
		{Ear{Node: 1, Name: "x"}, 1},
		{Ear{Node: 1}, -1},
		{Ear{Node: 1, Name: most + "x"}, -1},
		{Ear{Node: 1, Name: most}, 2},
		{Ear{Node: 1, Name: strings.Repeat("é", api.MaxName/2)}, 3},
		{Ear{Node: 1, Name: strings.Repeat("é", api.MaxName/2) + "x"}, -1},
		{Ear{Node: -1, Name: " "}, 4},
		{Ear{Node: math.MaxInt, Name: "\xff\x00"}, 5},
		{Ear{}, -1},
		{Ear{Name: "A", Down: true, Once: true, Calm: true, Stop: true, Now: true, Bar: true}, 6},
	} {
		if got := e.Add(c.x); got != c.want {
			t.Errorf("%d: %d, want %d", at, got, c.want)
		}
	}
}

// P150: no more than MaxItems, of which those that were dropped are some.
func TestAddMany(t *testing.T) {
	e := New()
	for k := range api.MaxItems {
		if got := e.Add(Ear{Name: "x"}); got != k {
			t.Fatalf("%d: %d", k, got)
		}
		if k%3 == 0 && !e.Drop(k) {
			t.Fatalf("%d is not dropped", k)
		}
	}
	for range 2 {
		if got := e.Add(Ear{Name: "x"}); got != -1 {
			t.Errorf("one too many: %d", got)
		}
	}
	if !e.Drop(api.MaxItems-1) || e.Drop(api.MaxItems) || e.Add(Ear{Name: "x"}) != -1 {
		t.Error("a number is told twice")
	}
}

// P150: what is dropped hears no more, and is dropped once.
func TestDrop(t *testing.T) {
	d := read(t, "<a></a>")
	e := earsOf(t, Ear{Node: 1}, Ear{Node: 1}, Ear{Node: 1, Once: true})
	for _, c := range []struct {
		k    int
		want bool
		left string
	}{
		{-1, false, "[{0 1 2} {1 1 2} {2 1 2}] true"}, // and the last one is gone
		{2, false, "[{0 1 2} {1 1 2}] true"},
		{3, false, "[{0 1 2} {1 1 2}] true"},
		{math.MaxInt, false, "[{0 1 2} {1 1 2}] true"},
		{math.MinInt, false, "[{0 1 2} {1 1 2}] true"},
		{0, true, "[{1 1 2}] true"},
		{0, false, "[{1 1 2}] true"},
		{1, true, "[] true"},
		{1, false, "[] true"},
	} {
		if got := e.Drop(c.k); got != c.want {
			t.Errorf("Drop %d: %v", c.k, got)
		}
		holdSent(t, e, d, 1, true, c.left)
	}
	if got := e.Add(click(Ear{Node: 1})); got != 3 {
		t.Errorf("behind those that are gone: %d", got)
	}
	holdSent(t, e, d, 1, true, "[{3 1 2}] true")
	if e := New(); e.Drop(0) || e.Drop(-1) {
		t.Error("where there are none, one is dropped")
	}
}

// P150: what is dropped hears nothing at all, not even what has no name; nor does it at the document, or with what it did.
func TestDropWhole(t *testing.T) {
	d := read(t, "<a></a>")
	e := earsOf(t, Ear{Node: 1, Bar: true, Now: true}, Ear{Node: 0, Down: true, Stop: true}, Ear{Node: 1})
	e.Drop(0)
	e.Drop(1)
	for _, id := range []int{0, 1} {
		if l, free := e.Send(d, id, "", true); len(l) != 0 || !free {
			t.Errorf("no name, at %d: %v %v", id, l, free)
		}
	}
	holdSent(t, e, d, 1, true, "[{2 1 2}] true")
}

// P2, P4: each has its own ears, and an ear is as it was when it came.
func TestEarsAlone(t *testing.T) {
	d := read(t, "<a></a>")
	x := click(Ear{Node: 1})
	e, other := New(), New()
	e.Add(x)
	x.Node, x.Name, x.Bar = 0, "key", true
	holdSent(t, e, d, 1, true, "[{0 1 2}] true")
	holdSent(t, other, d, 1, true, "[] true")
	other.Add(x)
	e.Drop(0)
	if l, free := other.Send(d, 0, "key", true); len(l) != 1 || free {
		t.Error(l, free)
	}
}
