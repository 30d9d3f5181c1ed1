package fresh

import (
	"errors"
	"fmt"
	"math"
	"slices"
	"testing"

	"casement/api"
	"casement/frame"
)

// P161: looks of a page that is known by heart.
func TestLooks(t *testing.T) {
	p := open(t, "<div><p>mm</p>a<b>i</b></div>c", "p{background:red;height:12px;--x:1 2}b{width:var(--x,1px)}") // 2: p, 3: mm, 4: a, 5: b, 6: i, 7: c
	s, ok := p.Style(2)
	if !ok || s.V[api.PHeight] != (api.Value{Kind: api.VLength, N: 12 * api.Unit}) || !slices.Equal(s.Vars, []api.Attr{{Name: "--x", Value: "1 2"}}) {
		t.Error(s, ok)
	}
	if s, ok := p.Style(5); !ok || s.V[api.PWidth] != (api.Value{Kind: api.VLength, N: api.Unit}) || len(s.Vars) > 0 {
		t.Error(s, ok)
	}
	holdPlaces(t, p, "1:0,0,100,22 2:0,0,100,12 3:0,0,16,10 4:0,12,5,10 5:5,12,3,10 6:5,12,3,10")
	want := "{Deep:0 Kind:1 Node:1 Text: Rect:{X:0 Y:0 W:6400 H:1408}}\n" +
		"{Deep:1 Kind:1 Node:2 Text: Rect:{X:0 Y:0 W:6400 H:768}}\n" +
		"{Deep:2 Kind:8 Node:0 Text: Rect:{X:0 Y:0 W:6400 H:640}}\n" +
		"{Deep:3 Kind:3 Node:3 Text:mm Rect:{X:0 Y:0 W:1024 H:640}}\n" +
		"{Deep:1 Kind:8 Node:0 Text: Rect:{X:0 Y:768 W:6400 H:640}}\n" +
		"{Deep:2 Kind:3 Node:4 Text:a Rect:{X:0 Y:768 W:320 H:640}}\n" +
		"{Deep:2 Kind:2 Node:5 Text: Rect:{X:320 Y:768 W:192 H:640}}\n" +
		"{Deep:3 Kind:3 Node:6 Text:i Rect:{X:320 Y:768 W:192 H:640}}\n"
	if got := told(p.Frame()); got != want {
		t.Errorf("%s, want %s", got, want)
	}
	for _, c := range []struct{ x, y, want int }{{0, 0, 3}, {16, 0, 2}, {99, 11, 2}, {4, 12, 4}, {5, 12, 6}, {8, 12, 1}, {100, 12, -1}, {0, 22, -1}, {-1, 0, -1}} {
		if got := p.At(c.x*api.Unit, c.y*api.Unit); got != c.want {
			t.Errorf("at %d, %d: %d, want %d", c.x, c.y, got, c.want)
		}
	}
	if got, err := p.Markup(); got != "<div><p>mm</p>a<b>i</b></div>c" || err != nil {
		t.Error(got, err)
	}
}

// P161: a picture is of the page's size, within the bounds of pictures.
func TestPictureSize(t *testing.T) {
	for _, c := range []struct{ width, height, wide, high int }{{3, 2, 3, 2}, {64, 64, 64, 64}, {65, 5, 64, 5}, {4096, 4097, 64, 64}, {0, 2, 0, 2}, {7, 0, 0, 0}, {-1, -1, 0, 0}} {
		p := open(t, "<p>", "p{background:red;height:1px}")
		p.Resize(c.width, c.height)
		l := p.Picture()
		if len(l) != c.high {
			t.Errorf("%d, %d: %d rows", c.width, c.height, len(l))
		}
		for y, row := range l {
			want := -1
			if y == 0 {
				want = 0xff0000
			}
			if len(row) != c.wide || slices.ContainsFunc(row, func(n int) bool { return n != want }) {
				t.Errorf("%d, %d: row %d: %v", c.width, c.height, y, row)
			}
		}
	}
}

// P161: what has no style, and no place.
func TestNothing(t *testing.T) {
	p := open(t, "<div><p>a</p><!--b--></div><p>c</p>") // 2: p, 3: a, 4: b, 5: p, 6: c
	out := made(t)(p.Element("p"))
	ids := []int{0, 3, 4, 5, 6, out, out + 1, -1, math.MinInt, math.MaxInt}
	for _, id := range ids {
		if s, ok := p.Style(id); ok || s.V != nil || s.Vars != nil {
			t.Errorf("%d has a style: %v", id, s)
		}
		if id == 3 {
			continue
		}
		if got := place(p, id); got != "none" {
			t.Errorf("%d has a place: %s", id, got)
		}
	}
	do(t, p.Take(2))
	if s, ok := p.Style(2); ok || s.V != nil {
		t.Error("what was taken out has a style")
	}
	holdPlaces(t, p, "1:0,0,100,0 2:none 3:none")
}

// P161: a style is told of what is not shown, too.
func TestHidden(t *testing.T) {
	p := open(t, "<div><p><b>a</b></p></div>", "p{display:none}*{background:red}")
	holdReds(t, p, 1, 2, 3)
	holdPlaces(t, p, "2:none 3:none 4:none")
}

// P161: the markup is that of the document as it is now, if there is one.
func TestMarkup(t *testing.T) {
	p := open(t, "<div title=x>a<!--b--></div>")
	hold := func(want string, wantErr error) {
		t.Helper()
		got, err := p.Markup()
		if got != want || !errors.Is(err, wantErr) {
			t.Errorf("%s, %v, want %s, %v", got, err, want, wantErr)
		}
	}
	hold(`<div title="x">a<!--b--></div>`, nil)
	do(t, p.Say(2, "<"), p.Say(3, "c"), p.Set(1, "title", "y"))
	hold(`<div title="y">&lt;<!--c--></div>`, nil)
	outer, inner := made(t)(p.Element("p")), made(t)(p.Element("p"))
	do(t, p.Put(outer, inner, 0), p.Put(0, outer, 0))
	hold("", api.ErrShape)
	do(t, p.Take(inner))
	hold(`<p></p><div title="y">&lt;<!--c--></div>`, nil)
	holdWorked(t, p, "Markup", 0, 0)
}

// spoil all that a frame has.
func spoil(f *frame.Frame) {
	f.Kind, f.Node, f.Text, f.Rect = 99, 99, "spoilt", api.Rect{X: 99}
	for at := range f.Style.V {
		f.Style.V[at] = api.Value{Kind: api.VWord, N: 99, Text: "spoilt"}
	}
	for at := range f.Style.Vars {
		f.Style.Vars[at].Value = "spoilt"
	}
	for _, kid := range f.Kids {
		spoil(kid)
	}
	if len(f.Kids) > 0 {
		f.Kids[0] = nil
	}
}

// allTold: all looks, as a text.
func allTold(p *Page) string {
	text, err := p.Markup()
	text += fmt.Sprint(err, p.width, p.height) + told(p.Frame()) + fmt.Sprint(p.Picture())
	for id := -1; id <= p.tree.Size(); id++ {
		s, ok := p.Style(id)
		r, has := p.Rect(id)
		text += fmt.Sprint(id, s, ok, r, has, p.At(id*300, id*200)) + "\n"
	}
	return text
}

// P4: what is written into what a look told is seen by no other look.
func TestNewMemory(t *testing.T) {
	p := open(t, "<div><p>a</p><p>b <b>c</b></p></div>", "p{--x:1;background:red;border:1px}")
	was := allTold(p)
	other := p.Frame()
	otherTold := told(other)
	spoil(p.Frame())
	for _, row := range p.Picture() {
		clear(row)
	}
	s, _ := p.Style(2)
	clear(s.V)
	clear(s.Vars)
	if got := allTold(p); got != was {
		t.Errorf("%s, want %s", got, was)
	}
	if got := told(other); got != otherTold {
		t.Errorf("%s, want %s", got, otherTold)
	}
	// Nor by what is worked out behind that.
	do(t, p.Set(6, "style", "color:blue"), p.Unset(6, "style"), p.Say(3, "aa"), p.Say(3, "a"))
	if got := allTold(p); got != was {
		t.Errorf("%s, want %s", got, was)
	}
}

// P161: frames that were told stay as they were.
func TestFramesStay(t *testing.T) {
	p := open(t, "<div><p>a</p><p>b <b>c</b></p></div>", ":hover{background:red}") // 2: p, 3: a, 4: p, 5: b, 6: b, 7: c
	type seen struct {
		frame *frame.Frame
		text  string
	}
	var all []seen
	see := func() {
		f := p.Frame()
		all = append(all, seen{f, told(f) + fmt.Sprint(f.Style, f.Kids[0].Style)})
	}
	see()
	do(t, p.Put(1, 4, 0))
	see()
	do(t, p.Set(2, "style", "width:3px"))
	see()
	p.Point(0, 0)
	see()
	do(t, p.Sheet(1, "p{height:90px}"))
	see()
	p.Resize(20, 20)
	see()
	do(t, p.Say(5, "bbbb "))
	see()
	p.Undo()
	do(t, p.Take(2))
	for i, x := range all {
		if got := told(x.frame) + fmt.Sprint(x.frame.Style, x.frame.Kids[0].Style); got != x.text {
			t.Errorf("the %d-th frame has changed: %s, want %s", i, got, x.text)
		}
	}
}

// What had one style has one in what is told, too; frames of others have others.
func TestSharedStyles(t *testing.T) {
	f := open(t, "<div><p>a b c d</p></div>", "p{width:5px}").Frame()
	lines := f.Kids[0].Kids[0]
	if len(lines.Kids) != 4 {
		t.Fatal(told(f))
	}
	for _, run := range lines.Kids {
		if run.Style != f.Kids[0].Style || run.Style == f.Style || run.Style == lines.Style {
			t.Error("styles", told(f))
		}
	}
}
