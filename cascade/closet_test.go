package cascade

import (
	"fmt"
	"math"
	"testing"

	"casement/choose"
)

// closetOf a markup.
func closetOf(t *testing.T, text, rules string) *Closet {
	t.Helper()
	return NewCloset(mustGrow(t, text), []Source{{mustSheet(t, rules), false}}, View{})
}

// holdCloset: what an element's property is by a closet, and how many styles are worked out for it.
func holdCloset(t *testing.T, c *Closet, id int, want string) {
	t.Helper()
	s, n := c.Style(id)
	got := fmt.Sprint(n)
	if s.V != nil {
		got = s.wearing("width") + s.wearing("color") + s.vars() + " " + got
	}
	if got != want {
		t.Errorf("%d: %s, want %s", id, got, want)
	}
}

// A style is worked out once, and so are those of the elements around.
func TestCloset(t *testing.T) {
	c := closetOf(t, "<a><b><i>x</i></b><b></b></a>", "a{color:red;--x:1}b{width:2px}i{width:inherit;--x:2}") // 2: b, 3: i, 4: x, 5: b
	holdCloset(t, c, 3, "l128#ff0000--x:2 3")
	holdCloset(t, c, 3, "l128#ff0000--x:2 0")
	holdCloset(t, c, 1, "auto#ff0000--x:1 0")
	holdCloset(t, c, 5, "l128#ff0000--x:1 1")
	for _, id := range []int{0, 4, 6, -1, math.MinInt, math.MaxInt} {
		holdCloset(t, c, id, "0")
		holdCloset(t, NewCloset(nil, nil, View{}), id, "0")
	}
}

// An element that lies in none has no parent, wherever it lies.
func TestClosetOfRoots(t *testing.T) {
	c := closetOf(t, "<a></a><b></b>", "a{color:red}")
	holdCloset(t, c, 2, "auto#0 1")
	c.maker.tree.Take(1)
	c.Turn(choose.State{}, []int{2})
	holdCloset(t, c, 1, "auto#ff0000 1")
	holdCloset(t, c, 2, "auto#0 0")
}

// When all has changed, what is the same is kept, and all else is as it is then.
func TestTurn(t *testing.T) {
	c := closetOf(t, "<a><b></b><i></i></a>", "[k]+i{width:2px}:hover{width:3px}*{width:var(--w,4px)}") // 2: b, 3: i
	holdCloset(t, c, 3, "l256#0 2")
	c.maker.tree.Set(2, "k", "")
	c.Turn(choose.State{}, []int{1, 2})
	holdCloset(t, c, 3, "l128#0 1")
	holdCloset(t, c, 1, "l256#0 0")
	holdCloset(t, c, 2, "l256#0 1")
	c.Turn(choose.State{Hover: []int{2, 1}}, []int{3, 9, -1})
	holdCloset(t, c, 2, "l192#0 2")
	holdCloset(t, c, 3, "l128#0 0")
	c.maker.tree.Set(3, "style", "--w:7px")
	c.Turn(choose.State{}, nil)
	holdCloset(t, c, 3, "l128#0--w:7px 2")
}

// What a closet tells is what Styles tells.
func TestClosetModel(t *testing.T) {
	d := mustGrow(t, "<a style='--x:var(--y,2px)'>x<b><i k></i><b></b></b><b k></b></a><i></i>")
	l := []Source{{mustSheet(t, "*{width:1em}b{font-size:2em}[k]{width:var(--x)}"), true}, {mustSheet(t, "b>:last-child{display:block;--y:1px}:focus{float:left}"), false}}
	v := View{State: choose.State{Focus: []int{4}}}
	ids, styles := Styles(d, 0, l, v)
	c := NewCloset(d, l, v)
	for i := len(ids) - 1; i >= 0; i-- {
		if s, _ := c.Style(ids[i]); fmt.Sprint(s) != fmt.Sprint(styles[i]) {
			t.Errorf("%d: %v, want %v", ids[i], s, styles[i])
		}
	}
}
