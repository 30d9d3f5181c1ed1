package events

import (
	"fmt"
	"math"
	"testing"

	"casement/markup"
	"casement/tree"
)

// nested: 1 a, 2 b, 3 i, 4 a text, 5 a comment, 6 u.
const nested = "<a><b><i>x<!--c--></i></b><u></u></a>"

// sentOf ears in the nested page.
type sentOf struct {
	list  []Ear
	id    int
	rises bool
	want  string
}

func holdSendings(t *testing.T, all []sentOf) {
	t.Helper()
	d := read(t, nested)
	for _, c := range all {
		if got := sent(earsOf(t, c.list...), d, c.id, c.rises); got != c.want {
			t.Errorf("%+v to %d, rises %v: %s, want %s", c.list, c.id, c.rises, got, c.want)
		}
	}
}

// everywhere: an ear of both kinds at each node, those that are not Down first, from the document on.
func everywhere() []Ear {
	var l []Ear
	for node := range 7 {
		l = append(l, Ear{Node: node}, Ear{Node: node, Down: true})
	}
	return l
}

// P151: down from the root, at the node, and up, if it rises; nowhere else.
func TestWay(t *testing.T) {
	holdSendings(t, []sentOf{
		{everywhere(), 3, true, "[{1 0 1} {3 1 1} {5 2 1} {7 3 2} {6 3 2} {4 2 3} {2 1 3} {0 0 3}] true"},
		{everywhere(), 3, false, "[{1 0 1} {3 1 1} {5 2 1} {7 3 2} {6 3 2}] true"},
		{everywhere(), 4, true, "[{1 0 1} {3 1 1} {5 2 1} {7 3 1} {9 4 2} {8 4 2} {6 3 3} {4 2 3} {2 1 3} {0 0 3}] true"},
		{everywhere(), 5, false, "[{1 0 1} {3 1 1} {5 2 1} {7 3 1} {11 5 2} {10 5 2}] true"},
		{everywhere(), 6, true, "[{1 0 1} {3 1 1} {13 6 2} {12 6 2} {2 1 3} {0 0 3}] true"},
		{everywhere(), 1, true, "[{1 0 1} {3 1 2} {2 1 2} {0 0 3}] true"},
		{everywhere(), 0, true, "[{1 0 2} {0 0 2}] true"},
		{everywhere(), 0, false, "[{1 0 2} {0 0 2}] true"},
		{everywhere(), 7, true, "[] true"},
		{everywhere(), -1, true, "[] true"},
		{everywhere(), math.MinInt, false, "[] true"},
		{everywhere(), math.MaxInt, true, "[] true"},
		{nil, 3, true, "[] true"},
	})
}

// P151: at a node by numbers; at the last one those that are Down first.
func TestNumbers(t *testing.T) {
	holdSendings(t, []sentOf{
		{[]Ear{{Node: 3}, {Node: 3, Down: true}, {Node: 3}, {Node: 3, Down: true}}, 3, true, "[{1 3 2} {3 3 2} {0 3 2} {2 3 2}] true"},
		{[]Ear{{Node: 2}, {Node: 2, Down: true}, {Node: 2}, {Node: 2, Down: true}}, 3, true, "[{1 2 1} {3 2 1} {0 2 3} {2 2 3}] true"},
		{[]Ear{{Node: 3}, {Node: 2}, {Node: 1}, {Node: 3}, {Node: 2}, {Node: 1}}, 3, true, "[{0 3 2} {3 3 2} {1 2 3} {4 2 3} {2 1 3} {5 1 3}] true"},
		{[]Ear{{Node: 2, Down: true}, {Node: 1, Down: true}, {Node: 2, Down: true}, {Node: 1, Down: true}}, 3, false, "[{1 1 1} {3 1 1} {0 2 1} {2 2 1}] true"},
	})
}

// P151: ears hear what has their name, to the byte.
func TestNames(t *testing.T) {
	d := read(t, nested)
	e := New()
	for _, name := range []string{"click", "Click", "key", "clic", "click ", "\xff", "\ufffd"} {
		e.Add(Ear{Node: 3, Name: name, Bar: name == "key"})
	}
	for name, want := range map[string]string{
		"click": "[{0 3 2}] true", "Click": "[{1 3 2}] true", "key": "[{2 3 2}] false", "clic": "[{3 3 2}] true", "click ": "[{4 3 2}] true", "\xff": "[{5 3 2}] true", "\ufffd": "[{6 3 2}] true",
		"": "[] true", "cli": "[] true", "CLICK": "[] true",
	} {
		if got := fmt.Sprint(e.Send(d, 3, name, true)); got != want {
			t.Errorf("%q: %s, want %s", name, got, want)
		}
	}
}

// P150, P151: Stop: all others at this node hear, and none at another one.
func TestStop(t *testing.T) {
	holdSendings(t, []sentOf{
		{[]Ear{{Node: 1, Down: true, Stop: true}, {Node: 1, Down: true}, {Node: 2, Down: true}, {Node: 3}, {Node: 1}}, 3, true, "[{0 1 1} {1 1 1}] true"},
		{[]Ear{{Node: 3}, {Node: 3, Down: true, Stop: true}, {Node: 3, Down: true}, {Node: 3}, {Node: 2}}, 3, true, "[{1 3 2} {2 3 2} {0 3 2} {3 3 2}] true"},
		{[]Ear{{Node: 3, Stop: true}, {Node: 3}, {Node: 2}, {Node: 2, Down: true}}, 3, true, "[{3 2 1} {0 3 2} {1 3 2}] true"},
		{[]Ear{{Node: 2, Stop: true}, {Node: 2}, {Node: 1}, {Node: 3}}, 3, true, "[{3 3 2} {0 2 3} {1 2 3}] true"},
		{[]Ear{{Node: 2, Stop: true}, {Node: 3}}, 3, false, "[{1 3 2}] true"},
		{[]Ear{{Node: 6, Stop: true}, {Node: 3}, {Node: 2}}, 3, true, "[{1 3 2} {2 2 3}] true"},
		{[]Ear{{Node: 3, Name: "key", Stop: true}, {Node: 3}, {Node: 2}}, 3, true, "[{1 3 2} {2 2 3}] true"},
		// One behind may bar, and one that stops does what else it does.
		{[]Ear{{Node: 3, Stop: true}, {Node: 3, Bar: true}}, 3, true, "[{0 3 2} {1 3 2}] false"},
		{[]Ear{{Node: 0, Down: true, Stop: true, Bar: true}, {Node: 3}}, 3, true, "[{0 0 1}] false"},
	})
}

// P150, P151: Now: none behind it hears, neither at this node nor at another one.
func TestNow(t *testing.T) {
	holdSendings(t, []sentOf{
		{[]Ear{{Node: 3}, {Node: 3, Now: true}, {Node: 3}, {Node: 2}}, 3, true, "[{0 3 2} {1 3 2}] true"},
		{[]Ear{{Node: 3}, {Node: 3, Down: true}, {Node: 3, Down: true, Now: true}, {Node: 3, Down: true}}, 3, true, "[{1 3 2} {2 3 2}] true"},
		{[]Ear{{Node: 1, Down: true}, {Node: 1, Down: true, Now: true}, {Node: 1, Down: true}, {Node: 1}, {Node: 3}}, 3, true, "[{0 1 1} {1 1 1}] true"},
		{[]Ear{{Node: 2}, {Node: 2, Now: true}, {Node: 2}, {Node: 1}}, 3, true, "[{0 2 3} {1 2 3}] true"},
		{[]Ear{{Node: 3, Now: true, Stop: true, Bar: true}, {Node: 3}}, 3, true, "[{0 3 2}] false"},
		{[]Ear{{Node: 3, Now: true}, {Node: 3, Bar: true}}, 3, true, "[{0 3 2}] true"},
		{[]Ear{{Node: 3, Stop: true}, {Node: 3, Now: true}, {Node: 3}}, 3, true, "[{0 3 2} {1 3 2}] true"},
	})
}

// P150, P151: what is barred by one that is not calm is barred, whoever comes behind it, and goes on.
func TestBar(t *testing.T) {
	holdSendings(t, []sentOf{
		{[]Ear{{Node: 3, Bar: true}, {Node: 3}, {Node: 2}}, 3, true, "[{0 3 2} {1 3 2} {2 2 3}] false"},
		{[]Ear{{Node: 3, Bar: true, Calm: true}, {Node: 2, Bar: true, Calm: true}}, 3, true, "[{0 3 2} {1 2 3}] true"},
		{[]Ear{{Node: 3, Bar: true, Calm: true}, {Node: 2, Bar: true}}, 3, true, "[{0 3 2} {1 2 3}] false"},
		{[]Ear{{Node: 3, Bar: true}, {Node: 3, Bar: true, Calm: true}}, 3, true, "[{0 3 2} {1 3 2}] false"},
		{[]Ear{{Node: 2, Bar: true}, {Node: 3}}, 3, false, "[{1 3 2}] true"},
		{[]Ear{{Node: 2, Bar: true, Down: true}, {Node: 3}}, 3, false, "[{0 2 1} {1 3 2}] false"},
		{[]Ear{{Node: 6, Bar: true}}, 3, true, "[] true"},
		{[]Ear{{Node: 3, Calm: true, Stop: true}, {Node: 2}}, 3, true, "[{0 3 2}] true"},
	})
	// The next one is free again.
	d := read(t, nested)
	e := earsOf(t, Ear{Node: 3, Bar: true, Once: true}, Ear{Node: 3})
	holdSent(t, e, d, 3, true, "[{0 3 2} {1 3 2}] false")
	holdSent(t, e, d, 3, true, "[{1 3 2}] true")
}

// P150, P151: one that is Once hears once, and only what reaches it counts.
func TestOnce(t *testing.T) {
	d := read(t, nested)
	e := earsOf(t, Ear{Node: 3, Once: true}, Ear{Node: 2, Once: true, Down: true}, Ear{Node: 2, Once: true, Now: true}, Ear{Node: 2, Once: true}, Ear{Node: 3})
	if l, _ := e.Send(d, 3, "key", true); len(l) != 0 {
		t.Error(l)
	}
	holdSent(t, e, d, 6, true, "[] true")
	holdSent(t, e, d, 7, true, "[] true")
	holdSent(t, e, d, 3, false, "[{1 2 1} {0 3 2} {4 3 2}] true")
	holdSent(t, e, d, 3, true, "[{4 3 2} {2 2 3}] true")
	for _, k := range []int{0, 1, 2} {
		if e.Drop(k) {
			t.Errorf("%d still heard", k)
		}
	}
	holdSent(t, e, d, 3, true, "[{4 3 2} {3 2 3}] true")
	holdSent(t, e, d, 3, true, "[{4 3 2}] true")
}

// P151: the way is the one of the tree that is told, as it is now; its root need not be the document.
func TestWayNow(t *testing.T) {
	d := read(t, nested)
	e := earsOf(t, Ear{Node: 0, Down: true}, Ear{Node: 2, Down: true}, Ear{Node: 3}, Ear{Node: 6})
	holdSent(t, e, d, 3, true, "[{0 0 1} {1 2 1} {2 3 2}] true")
	d.Put(6, 3, 0)
	holdSent(t, e, d, 3, true, "[{0 0 1} {2 3 2} {3 6 3}] true")
	d.Take(6)
	holdSent(t, e, d, 3, true, "[{2 3 2} {3 6 3}] true")
	holdSent(t, e, d, 6, true, "[{3 6 2}] true")
	d.Undo()
	d.Undo()
	holdSent(t, e, d, 3, true, "[{0 0 1} {1 2 1} {2 3 2}] true")
	holdSent(t, e, read(t, "<a><b></b><b></b></a>"), 3, true, "[{0 0 1} {2 3 2}] true")
	holdSent(t, e, tree.New(), 0, true, "[{0 0 2}] true")
	holdSent(t, e, tree.New(), 3, true, "[] true")
}

// P151: a nil tree, and no ears.
func TestSendNone(t *testing.T) {
	e := earsOf(t, everywhere()...)
	for _, id := range []int{-1, 0, 1, 3} {
		holdSent(t, e, nil, id, true, "[] true")
		holdSent(t, New(), read(t, nested), id, true, "[] true")
		holdSent(t, New(), nil, id, false, "[] true")
	}
}

// P4: a tree is only read, and what is answered is new.
func TestSendNew(t *testing.T) {
	d := read(t, nested)
	before, _ := markup.Write(d, 0)
	d.Settle()
	e := earsOf(t, everywhere()...)
	l, _ := e.Send(d, 3, "click", true)
	want := fmt.Sprint(l)
	other, _ := e.Send(d, 3, "click", true)
	for at := range l {
		l[at] = Call{-1, -1, -1}
	}
	if got := fmt.Sprint(other); got != want {
		t.Errorf("%s, want %s", got, want)
	}
	holdSent(t, e, d, 3, true, want+" true")
	if after, _ := markup.Write(d, 0); after != before || d.Undo() {
		t.Errorf("%s, want %s", after, before)
	}
}
