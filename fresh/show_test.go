package fresh

import (
	"errors"
	"fmt"
	"slices"
	"strings"
	"testing"

	"casement/api"
	"casement/frame"
	"casement/plain"
)

// base: what tests say of tags. Letters are 10 pixels high, and so are lines.
const base = "*{font-size:10px;line-height:10px}div,p{display:block}"

// open a page of 100 by 80 pixels.
func open(t *testing.T, text string, rules ...string) *Page {
	t.Helper()
	p, err := Open(text, base, rules, 100, 80)
	if err != nil {
		t.Fatal(err)
	}
	return p
}

// do: changes that are no errors.
func do(t *testing.T, errs ...error) {
	t.Helper()
	for i, err := range errs {
		if err != nil {
			t.Errorf("the %d-th change: %v", i, err)
		}
	}
}

// made: a new node's ID, which is no error.
func made(t *testing.T) func(id int, err error) int {
	t.Helper()
	return func(id int, err error) int {
		t.Helper()
		do(t, err)
		return id
	}
}

// holdError of a change.
func holdError(t *testing.T, err, want error) {
	t.Helper()
	if !errors.Is(err, want) || want == nil && err != nil {
		t.Errorf("%v, want %v", err, want)
	}
}

// px: a length in pixels, with what is left of it in parts.
func px(n int) string {
	pixels, parts := n>>6, n&63
	if parts == 0 {
		return fmt.Sprint(pixels)
	}
	return fmt.Sprintf("%d+%d", pixels, parts)
}

// place of a node, in pixels.
func place(p *Page, id int) string {
	r, ok := p.Rect(id)
	if !ok && r == (api.Rect{}) {
		return "none"
	}
	return fmt.Sprintf("%s,%s,%s,%s", px(r.X), px(r.Y), px(r.W), px(r.H))
}

// holdPlaces of some nodes, each told as its ID and what place says.
func holdPlaces(t *testing.T, p *Page, want string) {
	t.Helper()
	var got []string
	for _, one := range strings.Fields(want) {
		var id int
		fmt.Sscanf(one, "%d:", &id)
		got = append(got, fmt.Sprintf("%d:%s", id, place(p, id)))
	}
	if got := strings.Join(got, " "); got != want {
		t.Errorf("%s, want %s", got, want)
	}
}

// colorOf an element's ground (-1: nothing is painted); -2: it has no style.
func colorOf(p *Page, id int) int {
	s, ok := p.Style(id)
	if !ok {
		return -2
	}
	return s.V[api.PBackground].N
}

// reds: which elements have a red ground.
func reds(p *Page) []int {
	var list []int
	for id := range p.tree.Size() {
		if colorOf(p, id) == 0xff0000 {
			list = append(list, id)
		}
	}
	return list
}

func holdReds(t *testing.T, p *Page, want ...int) {
	t.Helper()
	if got := reds(p); !slices.Equal(got, want) {
		t.Errorf("red: %v, want %v", got, want)
	}
}

// told: a frame and all that lies in it, as a text.
func told(f *frame.Frame) string {
	var out strings.Builder
	for _, leaf := range plain.Frames(f) {
		fmt.Fprintf(&out, "%+v\n", leaf)
	}
	return out.String()
}

// seeAll: every look.
func seeAll(p *Page) {
	p.Picture()
	for id := range p.tree.Size() {
		p.Style(id)
		p.Rect(id)
	}
	p.At(0, 0)
	p.Frame()
	p.Markup()
}

// settled: a page of which all has been worked out.
func settled(t *testing.T, text string, rules ...string) *Page {
	t.Helper()
	p := open(t, text, rules...)
	seeAll(p)
	p.Work()
	return p
}

// holdWork that is done for all looks.
func holdWork(t *testing.T, p *Page, what string, styles, frames int) {
	t.Helper()
	seeAll(p)
	holdWorked(t, p, what, styles, frames)
}

// holdWorked: the work that was done.
func holdWorked(t *testing.T, p *Page, what string, styles, frames int) {
	t.Helper()
	if s, f := p.Work(); s != styles || f != frames {
		t.Errorf("%s: %d styles, %d frames, want %d, %d", what, s, f, styles, frames)
	}
}
