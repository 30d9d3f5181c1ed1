package hit

import (
	"math"
	"math/rand"
	"slices"
	"testing"

	"casement/api"
	"casement/frame"
	"casement/markup"
	"casement/paint"
	"casement/plain"
	"casement/tree"
)

// A second telling. Every element is painted, and so are all texts: what stands at a point is what was painted there last, of what takes points. And what lies in a frame that cuts reaches nowhere beyond it.

// pointers: whether a node takes points.
func pointers(f *frame.Frame, all map[int]bool) map[int]bool {
	all[f.Node] = f.Style.V[api.PPointer].Text != "none"
	for _, kid := range f.Kids {
		pointers(kid, all)
	}
	return all
}

// modelAt a point, of marks.
func modelAt(l []paint.Mark, takes map[int]bool, x, y int) int {
	for _, m := range slices.Backward(l) {
		r := m.Rect
		if takes[m.Node] && r.X <= x && x <= r.X+r.W-1 && r.Y <= y && y <= r.Y+r.H-1 {
			return m.Node
		}
	}
	return -1
}

// modelRects of a node.
func modelRects(f *frame.Frame, id int) []api.Rect {
	var l []api.Rect
	for _, leaf := range plain.Frames(f) {
		if leaf.Node == id && id != 0 {
			l = append(l, leaf.Rect)
		}
	}
	return l
}

// modelAround: all ends in each direction, and of these the furthest ones.
func modelAround(l []api.Rect) (api.Rect, bool) {
	if len(l) == 0 {
		return api.Rect{}, false
	}
	var ends [4][]int
	for _, r := range l {
		for at, n := range []int{r.X, r.Y, r.X + r.W, r.Y + r.H} {
			ends[at] = append(ends[at], n)
		}
	}
	x, y := slices.Min(ends[0]), slices.Min(ends[1])
	return api.Rect{X: x, Y: y, W: slices.Max(ends[2]) - x, H: slices.Max(ends[3]) - y}, true
}

// uncut: the rects of what no frame cuts.
func uncut(f *frame.Frame) []api.Rect {
	l := []api.Rect{f.Rect}
	if f.Kind != api.BRun && f.Style.V[api.POverflow].Text == "hidden" {
		return l
	}
	for _, kid := range f.Kids {
		l = append(l, uncut(kid)...)
	}
	return l
}

// chance makes pages.
type chance struct{ *rand.Rand }

func (c chance) of(list ...string) string { return list[c.Intn(len(list))] }

func (c chance) length() string {
	return c.of("0", "1px", "2.7px", "5px", "9px", "20px", "30%", "70px")
}

func (c chance) declaration() string {
	switch c.Intn(14) {
	case 0, 1:
		return "position:" + c.of("relative", "relative", "absolute", "fixed")
	case 2, 3:
		return "position:relative;z-index:" + c.of("0", "0", "1", "2", "-1", "-2", "auto")
	case 4, 5:
		return "float:" + c.of("left", "right")
	case 6, 7:
		return "overflow:hidden"
	case 8:
		return "visibility:" + c.of("hidden", "visible", "visible")
	case 9:
		return "pointer-events:" + c.of("none", "auto", "auto")
	case 10:
		return c.of("width:", "height:", "height:") + c.length()
	case 11:
		return c.of("border:1px", "border:3px", "border:12px", "border-left-width:20px", "padding:4px")
	case 12:
		return c.of("margin-top:-", "margin-left:-", "margin-left:", "margin:") + c.length()
	}
	return c.of("top:", "left:", "right:", "bottom:") + c.of("", "-") + c.length()
}

// tree of some nodes, in a root.
func (c chance) tree(most int) *tree.Tree {
	d := tree.New()
	open := []int{0}
	for n := range 1 + c.Intn(most) {
		id := 0
		if n > 0 && c.Intn(3) == 0 {
			id, _ = d.Text(c.of(" ", "i", "aa ", "mm a i", "a bb  c"))
		} else {
			id, _ = d.Element(c.of("div", "p", "b", "b", "i", "a", "f", "g", "h", "br"))
			text := c.of("", "", "content:'c mm';", "display:list-item;", "display:contents;")
			for range c.Intn(5) {
				text += c.declaration() + ";"
			}
			d.Set(id, "style", text)
		}
		// The last ones are taken more often: else pages are flat.
		parent := open[max(c.Intn(len(open)), c.Intn(len(open)))]
		d.Put(parent, id, len(d.Kids(parent)))
		if n == 0 {
			open = nil
		}
		if d.Kind(id) == api.Element {
			open = append(open, id)
		}
	}
	return d
}

// near: a number at, or near, one of two.
func (c chance) near(from, to int) int {
	switch c.Intn(6) {
	case 0:
		return from + c.Intn(3) - 1
	case 1:
		return to + c.Intn(3) - 1
	case 2:
		return int(c.Uint64())
	}
	return from + c.Intn(max(to-from, 1))
}

// hold a page made by chance against the second telling.
func (c chance) hold(t *testing.T, most int) {
	t.Helper()
	d := c.tree(most)
	f := laid(t, d, "*{background:red;color:blue}", c.Intn(70)*api.Unit, c.Intn(70)*api.Unit)
	if f == nil {
		return
	}
	text, _ := markup.Write(d, 0)
	c.holdAt(t, text, f)
	for range 5 {
		id := c.Intn(most+3) - 1
		l := modelRects(f, id)
		if got := Rects(f, id); !slices.Equal(got, l) {
			t.Fatalf("%s: rects of %d: %s, want %s", text, id, shown(got...), shown(l...))
		}
		want, wantOK := modelAround(l)
		if got, ok := Around(f, id); got != want || ok != wantOK {
			t.Fatalf("%s: around %d: %s, want %s", text, id, shown(got), shown(want))
		}
	}
	want, _ := modelAround(uncut(f))
	if got := Scope(f); got != want {
		t.Fatalf("%s: scope %s, want %s", text, shown(got), shown(want))
	}
}

// holdAt points of a page, near the edges of its frames.
func (c chance) holdAt(t *testing.T, text string, f *frame.Frame) {
	t.Helper()
	l, takes := paint.Marks(f), pointers(f, make(map[int]bool))
	leaves := plain.Frames(f)
	for range 20 {
		a, b := leaves[c.Intn(len(leaves))].Rect, leaves[c.Intn(len(leaves))].Rect
		x, y := c.near(a.X, a.X+a.W), c.near(b.Y, b.Y+b.H)
		if got, want := At(f, x, y), modelAt(l, takes, x, y); got != want {
			t.Fatalf("%s: at %d, %d: %d, want %d", text, x, y, got, want)
		}
	}
}

// P140 to P142: of pages made by chance is told what the second telling says.
func TestModel(t *testing.T) {
	c := chance{rand.New(rand.NewSource(14))}
	for range 8000 {
		c.hold(t, 16)
	}
}

func FuzzHit(f *testing.F) {
	f.Add(int64(1))
	f.Fuzz(func(t *testing.T, seed int64) { chance{rand.New(rand.NewSource(seed))}.hold(t, 25) })
}

// P1: a page as deep and as full as a tree may be, and points of any numbers.
func TestMany(t *testing.T) {
	for _, rules := range []string{``, `b{float:left}`, `b{position:absolute;z-index:1}`, `b{position:relative;z-index:-1}`, `b{overflow:hidden}`} {
		d := tree.New()
		parent, last := 0, 0
		for {
			id, err := d.Element("b")
			if err != nil || d.Put(parent, id, 0) != nil {
				break
			}
			parent, last = id, id
		}
		f := laid(t, d, `b{display:block;height:1px;width:1px}`+rules, 100*api.Unit, 80*api.Unit)
		if got := At(f, 0, 0); got != last {
			t.Errorf("%s: %d, want %d", rules, got, last)
		}
		if got, ok := Around(f, last); got != (api.Rect{W: api.Unit, H: api.Unit}) || !ok {
			t.Errorf("%s: %v", rules, got)
		}
		if got := Scope(f); got != (api.Rect{W: api.Unit, H: api.Unit}) {
			t.Errorf("%s: %v", rules, got)
		}
		for _, n := range []int{math.MinInt, math.MinInt + 1, -1, math.MaxInt} {
			if got := At(f, n, n); got != -1 {
				t.Errorf("%s at %d: %d", rules, n, got)
			}
		}
	}
}
