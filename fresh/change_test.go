package fresh

import (
	"errors"
	"math"
	"strings"
	"testing"

	"casement/api"
	"casement/frame"
)

// P160: changes of the tree, each of which is undone again.
func TestTreeChanges(t *testing.T) {
	p := open(t, "<div><p>a</p><!--b--><p>c</p></div>", "p{height:7px}.x{height:9px}p:first-child{width:50px}") // 2: p, 3: a, 4: b, 5: p, 6: c
	was := told(p.Frame())
	undone := func(what string) {
		t.Helper()
		if !p.Undo() {
			t.Error("nothing to undo:", what)
		}
		if got := told(p.Frame()); got != was {
			t.Errorf("%s, undone: %s, want %s", what, got, was)
		}
	}
	do(t, p.Set(5, "class", "x"))
	holdPlaces(t, p, "1:0,0,100,16 2:0,0,50,7 5:0,7,100,9")
	undone("Set")
	do(t, p.Put(1, 5, 0))
	holdPlaces(t, p, "5:0,0,50,7 2:0,7,100,7")
	undone("Put")
	do(t, p.Take(2))
	holdPlaces(t, p, "1:0,0,100,7 2:none 3:none 5:0,0,50,7")
	undone("Take")
	do(t, p.Say(6, "cc"))
	holdPlaces(t, p, "6:0,7,10,10")
	undone("Say")
	id := made(t)(p.Element("p"))
	if id != 7 {
		t.Error(id)
	}
	word := made(t)(p.Text("mm"))
	do(t, p.Put(id, word, 0), p.Put(1, id, 1))
	holdPlaces(t, p, "1:0,0,100,21 7:0,7,100,7 8:0,7,16,10 5:0,14,100,7")
	p.Undo()
	p.Undo()
	p.Undo()
	undone("Element")
	if p.Undo() {
		t.Error("the markup is undone")
	}
	do(t, p.Set(2, "class", "x"), p.Unset(2, "class"))
	holdPlaces(t, p, "2:0,0,50,7")
	p.Undo()
	holdPlaces(t, p, "2:0,0,50,9")
	undone("Set, behind Unset")
}

// P160: errors are those of the tree, and with them nothing is changed.
func TestTreeErrors(t *testing.T) {
	p := open(t, "<div><p>a</p><!--b--></div>") // 2: p, 3: a, 4: b
	was := told(p.Frame())
	long := strings.Repeat("x", api.MaxText+1)
	for _, c := range []struct{ err, want error }{
		{p.Put(9, 2, 0), api.ErrNode},
		{p.Put(1, -1, 0), api.ErrNode},
		{p.Put(2, 1, 0), api.ErrPlace},
		{p.Put(3, 2, 0), api.ErrPlace},
		{p.Put(1, 2, 2), api.ErrPlace},
		{p.Put(0, 0, 0), api.ErrPlace},
		{p.Take(0), api.ErrPlace},
		{p.Take(math.MinInt), api.ErrNode},
		{p.Set(3, "class", ""), api.ErrPlace},
		{p.Set(2, "", ""), api.ErrName},
		{p.Set(2, "class", long), api.ErrBound},
		{p.Set(9, "class", ""), api.ErrNode},
		{p.Unset(2, "class"), api.ErrName},
		{p.Unset(3, "class"), api.ErrPlace},
		{p.Unset(9, "class"), api.ErrNode},
		{p.Say(2, "x"), api.ErrPlace},
		{p.Say(9, "x"), api.ErrNode},
		{p.Say(3, long), api.ErrBound},
	} {
		holdError(t, c.err, c.want)
	}
	if id, err := p.Element("P"); id != 0 || !errors.Is(err, api.ErrName) {
		t.Error(id, err)
	}
	if id, err := p.Text(long); id != 0 || !errors.Is(err, api.ErrBound) {
		t.Error(id, err)
	}
	if got := told(p.Frame()); got != was || p.Undo() {
		t.Error("an error changed something")
	}
}

// P160: 0 is the base, the others follow; one behind the last is one more.
func TestSheet(t *testing.T) {
	p := open(t, "<p>", "p{background:blue}", "p{background:green}")
	color := func(want int) {
		t.Helper()
		if got := colorOf(p, 1); got != want {
			t.Errorf("%06x, want %06x", got, want)
		}
	}
	color(0x008000)
	do(t, p.Sheet(3, "p{background:red}"))
	color(0xff0000)
	do(t, p.Sheet(3, ""))
	color(0x008000)
	do(t, p.Sheet(2, "a{background:red}"))
	color(0x0000ff)
	do(t, p.Sheet(1, ""))
	color(-1)
	do(t, p.Sheet(0, "p{background:red}"))
	color(0xff0000)
	do(t, p.Sheet(1, "p{background:blue}"))
	color(0x0000ff)
	do(t, p.Sheet(0, "p{background:red!important}"))
	color(0xff0000)
	do(t, p.Sheet(2, "p{background:green!important}"))
	color(0xff0000)
	do(t, p.Sheet(4, "p{width:5px}"), p.Sheet(5, "p{height:3px}"))
	holdPlaces(t, p, "1:0,0,5,3")
}

// P160: a sheet of a number that is none, and one that can't be read.
func TestSheetErrors(t *testing.T) {
	p := open(t, "<p>", "p{background:red}")
	for _, k := range []int{-1, 3, math.MinInt, math.MaxInt} {
		holdError(t, p.Sheet(k, ""), api.ErrPlace)
		holdError(t, p.Sheet(k, tooMany(0)), api.ErrPlace)
	}
	for k := range 3 {
		var f *api.Fault
		if err := p.Sheet(k, tooMany(k)); !errors.As(err, &f) || f.At != api.MaxRules*3+k || !errors.Is(err, api.ErrBound) {
			t.Error(err)
		}
	}
	holdReds(t, p, 1)
	holdError(t, p.Sheet(3, ""), api.ErrPlace)
}

// P160: sheets, sizes and states are nothing that Undo undoes.
func TestUndoOfOthers(t *testing.T) {
	p := open(t, "<p>a</p>", "", ":hover{background:red}:focus{height:3px}")
	do(t, p.Set(1, "style", "width:5px"), p.Sheet(1, "p{margin-left:2px}"))
	p.Resize(50, 50)
	p.Point(3*api.Unit, 0)
	p.Focus(1)
	holdPlaces(t, p, "1:2,0,5,3")
	if !p.Undo() || p.Undo() {
		t.Error("Undo")
	}
	holdPlaces(t, p, "1:2,0,48,3")
	holdReds(t, p, 1)
}

// P160: a point tells what stands there ahead of it, and from then on is over that and what it lies in.
func TestPoint(t *testing.T) {
	p := open(t, "<div><p>mm</p><p><b>m</b></p></div>", ":hover{background:red}p:hover{height:25px}") // 2: p, 3: mm, 4: p, 5: b, 6: m
	point := func(x, y, want int, red ...int) {
		t.Helper()
		if got := p.Point(x*api.Unit, y*api.Unit); got != want {
			t.Errorf("at %d, %d: %d, want %d", x, y, got, want)
		}
		holdReds(t, p, red...)
	}
	point(3, 15, 6, 1, 4, 5)
	holdPlaces(t, p, "2:0,0,100,10 4:0,10,100,25")
	point(3, 5, 3, 1, 2)
	holdPlaces(t, p, "2:0,0,100,25 4:0,25,100,10")
	// Here was the second one ahead of that; and it is no more, when this is done.
	point(90, 24, 2, 1, 2)
	point(90, 30, 4, 1, 4)
	point(90, 30, 4, 1, 4)
	point(3, 70, -1)
	point(-1, 0, -1)
	if got := p.Point(math.MinInt, math.MaxInt); got != -1 {
		t.Error(got)
	}
}

// P160: what is hovered was told when something pointed, whatever is changed behind that.
func TestPointStays(t *testing.T) {
	p := open(t, "<div><p>m</p><p></p></div>", ":hover{background:red}") // 2: p, 3: m, 4: p
	p.Point(0, 0)
	holdReds(t, p, 1, 2)
	do(t, p.Put(4, 2, 0))
	holdReds(t, p, 1, 2)
	do(t, p.Take(2))
	holdReds(t, p, 1)
	do(t, p.Put(1, 2, 0))
	holdReds(t, p, 1, 2)
	p.Point(0, 70*api.Unit)
	holdReds(t, p)
}

// P160: the focus is one element's, or nobody's.
func TestFocus(t *testing.T) {
	p := open(t, "<div><p>m</p><p></p><!--c--></div>", ":focus{background:red}") // 2: p, 3: m, 4: p, 5: c
	for _, c := range []struct {
		id   int
		want []int
	}{
		{2, []int{2}}, {4, []int{4}}, {-1, nil}, {4, []int{4}}, {3, nil}, {4, []int{4}}, {0, nil}, {4, []int{4}}, {5, nil},
		{4, []int{4}}, {6, nil}, {2, []int{2}}, {math.MinInt, nil}, {2, []int{2}}, {math.MaxInt, nil},
	} {
		p.Focus(c.id)
		holdReds(t, p, c.want...)
	}
	// What lies in no page can have it as well.
	do(t, p.Take(4))
	p.Focus(4)
	holdReds(t, p)
	do(t, p.Put(2, 4, 0))
	holdReds(t, p, 4)
	// What was none when it was told has it never.
	word := made(t)(p.Text("x"))
	p.Focus(word)
	p.Undo()
	id := made(t)(p.Element("p"))
	do(t, p.Put(1, id, 0))
	holdReds(t, p)
	p.Focus(id)
	holdReds(t, p, word)
}

// P160, P161: a page of which nothing was seen changes as one does that was seen.
func TestUnseen(t *testing.T) {
	var all [2]*frame.Frame
	for i := range all {
		p := open(t, "<div><p>a</p><p>b</p></div>", "p:focus{background:red}")
		look := func() {
			if i == 1 {
				seeAll(p)
			}
		}
		look()
		do(t, p.Set(2, "style", "height:4px"))
		look()
		do(t, p.Put(2, 4, 1))
		look()
		p.Focus(4)
		p.Resize(30, 30)
		look()
		do(t, p.Sheet(2, "p+p,p p{margin-left:3px}"))
		all[i] = p.Frame()
	}
	if told(all[0]) != told(all[1]) || told(all[0]) == "" {
		t.Errorf("%s, want %s", told(all[1]), told(all[0]))
	}
}
