package paint

import (
	"math/big"
	"math/rand"
	"slices"
	"testing"

	"casement/api"
	"casement/frame"
	"casement/markup"
	"casement/tree"
)

// A second telling: nothing is gone through in the order in which it is painted. Each frame has a key, of the step of each layer (or what is painted as one) that it is in; frames are then sorted by their keys.

// step of a layer: its number, a depth, and a frame's place among all.
type step [3]int

// told: a frame, those around it from the root on, and its key.
type told struct {
	*frame.Frame
	around []*told
	at     int
	key    []step
}

func (m *told) says(property int, word string) bool {
	return m.Kind != api.BRun && m.Style.V[property].Text == word
}

func (m *told) static() bool { return m.Kind == api.BRun || m.says(api.PPosition, "static") }

func (m *told) makesLayer() bool {
	return len(m.around) == 0 || !m.static() && !m.says(api.PZ, "auto")
}

func (m *told) lifted() bool { return !m.makesLayer() && !m.static() }

func (m *told) floats() bool {
	return !m.makesLayer() && !m.lifted() && (m.says(api.PFloat, "left") || m.says(api.PFloat, "right"))
}

// nearest frame around of which something holds.
func (m *told) nearest(holds func(*told) bool) *told {
	for _, o := range slices.Backward(m.around) {
		if holds(o) {
			return o
		}
	}
	return nil
}

// whole: whether a frame is painted with all that is in it, as a layer or as if it were one.
func (m *told) whole() bool {
	return m.makesLayer() || m.lifted() || m.floats() || m.Kind == api.BAtom
}

// place: of which frame's steps it is one, and which.
func (m *told) place() (*told, step) {
	layer, group := m.nearest((*told).makesLayer), m.nearest((*told).whole)
	n := m.Style.V[api.PZ].N
	switch {
	case m.makesLayer() && n < 0:
		return layer, step{2, n, m.at}
	case m.makesLayer() && n > 0:
		return layer, step{7, n, m.at}
	case m.makesLayer(), m.lifted():
		return layer, step{6, 0, m.at}
	case m.floats():
		return group, step{4, 0, m.at}
	case slices.Contains([]int{api.BInline, api.BRun, api.BAtom}, m.Kind):
		return group, step{5, 0, m.at}
	}
	return group, step{3, 0, m.at}
}

// tell all frames of a frame.
func tell(f *frame.Frame) []*told {
	var all []*told
	var walk func(f *frame.Frame, around []*told)
	walk = func(f *frame.Frame, around []*told) {
		m := &told{Frame: f, around: around, at: len(all)}
		all = append(all, m)
		if len(around) > 0 {
			in, s := m.place()
			m.key = append(slices.Clone(in.key), s)
		}
		for _, kid := range f.Kids {
			walk(kid, append(slices.Clone(around), m))
		}
	}
	walk(f, nil)
	slices.SortFunc(all, func(a, b *told) int {
		return slices.CompareFunc(a.key, b.key, func(a, b step) int { return slices.Compare(a[:], b[:]) })
	})
	return all
}

// span from a place to another; none: nothing lies in it.
type span struct{ from, to int }

func common(l ...span) (s span, none bool) {
	s = l[0]
	for _, o := range l {
		s = span{max(s.from, o.from), min(s.to, o.to)}
	}
	return s, s.from >= s.to
}

// left of a rect, when it lies in a frame that is cut.
func (m *told) left(r api.Rect) (api.Rect, bool) {
	across, down := []span{{r.X, r.X + r.W}, {m.Rect.X, m.Rect.X + m.Rect.W}}, []span{{r.Y, r.Y + r.H}, {m.Rect.Y, m.Rect.Y + m.Rect.H}}
	for _, o := range m.around {
		if o.says(api.POverflow, "hidden") {
			v := o.Style.V
			across = append(across, span{o.Rect.X + v[api.PBorderLeft].N, o.Rect.X + o.Rect.W - v[api.PBorderRight].N})
			down = append(down, span{o.Rect.Y + v[api.PBorderTop].N, o.Rect.Y + o.Rect.H - v[api.PBorderBottom].N})
		}
	}
	x, noneX := common(across...)
	y, noneY := common(down...)
	return api.Rect{X: x.from, Y: y.from, W: x.to - x.from, H: y.to - y.from}, !noneX && !noneY
}

// modelMarks of a page.
func modelMarks(f *frame.Frame) []Mark {
	var l []Mark
	for _, m := range tell(f) {
		v, r := m.Style.V, m.Rect
		mark := func(property int, text string, at api.Rect) {
			if rest, ok := m.left(at); ok && v[property].N >= 0 && v[api.PVisible].Text == "visible" {
				l = append(l, Mark{m.Node, v[property].N, rest, text})
			}
		}
		if m.Kind == api.BRun {
			mark(api.PColor, m.Text, r)
			continue
		}
		top, right, bottom, left := v[api.PBorderTop].N, v[api.PBorderRight].N, v[api.PBorderBottom].N, v[api.PBorderLeft].N
		mark(api.PBackground, "", r)
		mark(api.PBorderColor, "", api.Rect{X: r.X, Y: r.Y, W: r.W, H: top})
		mark(api.PBorderColor, "", api.Rect{X: r.X + r.W - right, Y: r.Y + top, W: right, H: r.H - top - bottom})
		mark(api.PBorderColor, "", api.Rect{X: r.X, Y: r.Y + r.H - bottom, W: r.W, H: bottom})
		mark(api.PBorderColor, "", api.Rect{X: r.X, Y: r.Y + top, W: left, H: r.H - top - bottom})
	}
	return l
}

// inside: whether the middle of a pixel lies from so far behind a place on, and ahead of the end.
func inside(pixel, place, first, size int) bool {
	middle, from := big.NewInt(int64(pixel*64+32)), big.NewInt(int64(place))
	to := new(big.Int).Add(from, big.NewInt(int64(size)))
	return middle.Cmp(from) >= 0 && middle.Cmp(new(big.Int).Add(from, big.NewInt(int64(first)))) >= 0 && middle.Cmp(to) < 0
}

// modelPixel: the color of the last mark that has it.
func modelPixel(l []Mark, x, y int) int {
	for _, m := range slices.Backward(l) {
		first := 0
		if m.Text != "" {
			first = m.Rect.H / 2
		}
		if inside(x, m.Rect.X, 0, m.Rect.W) && inside(y, m.Rect.Y, first, m.Rect.H) {
			return m.Color
		}
	}
	return -1
}

// chance makes pages.
type chance struct{ *rand.Rand }

func (c chance) of(list ...string) string { return list[c.Intn(len(list))] }

func (c chance) length() string { return c.of("0", "1px", "2.7px", "5px", "9px", "20px", "30%") }

func (c chance) declaration() string {
	switch c.Intn(14) {
	case 0, 1:
		return "position:" + c.of("relative", "relative", "absolute", "fixed")
	case 2, 3:
		return "position:relative;z-index:" + c.of("0", "0", "1", "2", "-1", "-2", "-1000000", "auto")
	case 4:
		return "z-index:" + c.of("-1", "0", "1")
	case 5, 6:
		return "float:" + c.of("left", "right")
	case 7:
		return "overflow:hidden"
	case 8:
		return "visibility:" + c.of("hidden", "visible", "visible")
	case 9:
		return c.of("width:", "height:", "height:") + c.length()
	case 10:
		return "border:" + c.of("1px", "3px blue", "0.3px red", "12px green", "2px transparent")
	case 11:
		return c.of("color:", "background:", "border-color:") + c.of("red", "blue", "transparent", "currentcolor", "#123")
	case 12:
		return c.of("border-top-width:", "border-left-width:", "padding:", "margin-left:", "margin-top:-") + c.of("1px", "4px", "13px")
	}
	return c.of("top:", "left:", "right:", "bottom:") + c.of("", "-") + c.length()
}

// tree of some nodes, in a root.
func (c chance) tree(most int) *tree.Tree {
	d := tree.New()
	open := []int{0}
	for n := range 1 + c.Intn(most) {
		id := 0
		if n > 0 && c.Intn(3) == 0 {
			id, _ = d.Text(c.of(" ", "i", "aa ", "mm a i", "a bb  c"))
		} else {
			id, _ = d.Element(c.of("div", "p", "b", "b", "i", "a", "f", "g", "h", "br"))
			text := c.of("", "background:red;", "content:'c';", "display:list-item;")
			for range c.Intn(5) {
				text += c.declaration() + ";"
			}
			d.Set(id, "style", text)
		}
		// The last ones are taken more often: else pages are flat.
		parent := open[max(c.Intn(len(open)), c.Intn(len(open)))]
		d.Put(parent, id, len(d.Kids(parent)))
		if n == 0 {
			open = nil
		}
		if d.Kind(id) == api.Element {
			open = append(open, id)
		}
	}
	return d
}

// hold a page made by chance against the second telling.
func (c chance) hold(t *testing.T, most int) {
	t.Helper()
	d := c.tree(most)
	f := laid(t, d, "", c.Intn(70)*api.Unit, c.Intn(70)*api.Unit)
	if f == nil {
		return
	}
	text, _ := markup.Write(d, 0)
	var want []*frame.Frame
	for _, m := range tell(f) {
		want = append(want, m.Frame)
	}
	var got []*frame.Frame
	for _, s := range ordered(seen(f, everywhere())) {
		got = append(got, s.Frame)
	}
	if !slices.Equal(got, want) {
		t.Fatalf("%s: another order", text)
	}
	l := Marks(f)
	if want := modelMarks(f); !slices.Equal(l, want) {
		t.Fatalf("%s:\n%s, want\n%s", text, shown(l), shown(want))
	}
	c.holdPicture(t, l)
}

// holdPicture of marks, and of some made by chance.
func (c chance) holdPicture(t *testing.T, l []Mark) {
	t.Helper()
	for range c.Intn(3) {
		n := func() int { return c.Intn(600) - 150 + c.Intn(20)/19*int(c.Uint64()) }
		l = append(l, Mark{Color: c.Intn(3), Rect: api.Rect{X: n(), Y: n(), W: n(), H: n()}, Text: c.of("", "x")})
	}
	rows := Picture(l, 1+c.Intn(12), 1+c.Intn(12))
	for y, row := range rows {
		for x, color := range row {
			if want := modelPixel(l, x, y); color != want {
				t.Fatalf("at %d, %d: %d, want %d, of %+v", x, y, color, want, l)
			}
		}
	}
}

// P130 to P132: pages made by chance are painted as the second telling says.
func TestModel(t *testing.T) {
	c := chance{rand.New(rand.NewSource(13))}
	for range 8000 {
		c.hold(t, 16)
	}
}

func FuzzMarks(f *testing.F) {
	f.Add(int64(1))
	f.Fuzz(func(t *testing.T, seed int64) { chance{rand.New(rand.NewSource(seed))}.hold(t, 25) })
}
