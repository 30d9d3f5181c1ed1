package hit

import (
	"slices"
	"testing"

	"casement/api"
)

// rectsOf a page's node: its rects, and what is around them.
type rectsOf struct {
	text, rules  string
	id           int
	want, around string
}

func holdRects(t *testing.T, pages []rectsOf) {
	t.Helper()
	for _, p := range pages {
		f := page(t, p.text, p.rules)
		if got := shown(Rects(f, p.id)...); got != p.want {
			t.Errorf("%s with %s, rects of %d:\n%s, want\n%s", p.text, p.rules, p.id, got, p.want)
		}
		if got := shownAround(f, p.id); got != p.around {
			t.Errorf("%s with %s, around %d:\n%s, want\n%s", p.text, p.rules, p.id, got, p.around)
		}
	}
}

// P141: the border box of the one frame that a node has, where it is at last.
func TestRectsOne(t *testing.T) {
	for _, p := range []rectsOf{
		{`<div><p></p></div>`, `p{height:5px}`, 1, `0,0,100,5`, ``},
		{`<div><p></p></div>`, `p{height:5px;width:20px;margin:3px;border:2px;padding:1px}`, 2, `3,3,26,11`, ``},
		{`<div><p></p></div>`, `p{height:5px;width:20px;position:relative;left:-3px;top:7.5px}`, 2, `-3,7+32,20,5`, ``},
		{`<div><p></p></div>`, `p{height:5px;width:20px;position:absolute;right:1px}`, 2, `79,0,20,5`, ``},
		{`<div>mm</div>`, `div{text-indent:2px}`, 2, `2,0,16,10`, ``},
		{`<div><b>mm</b></div>`, `b{padding:1px}`, 2, `0,-1,18,12`, ``},
		{`<div>m<a></a></div>`, `a{width:5px;height:7px}`, 3, `8,1,5,7`, ``},
		{`<f><b></b><i></i></f>`, `b,i{width:5px;height:7px}`, 3, `5,0,5,7`, ``},
	} {
		p.around = p.want
		holdRects(t, []rectsOf{p})
	}
}

// P141: as they are ahead of being cut, and whether they can be seen or not.
func TestRectsUnseen(t *testing.T) {
	for _, rules := range []string{`h{width:3px;height:2px}`, `h{width:0}`, `p{visibility:hidden}`, `p{pointer-events:none}`, `p{z-index:-1;position:relative}`} {
		holdRects(t, []rectsOf{{`<h><p></p></h>`, rules + `p{width:50px;height:30px}`, 2, `0,0,50,30`, `0,0,50,30`}})
	}
	holdRects(t, []rectsOf{{`<h><p></p></h>`, `h{height:9px}p{margin-left:200px;width:50px;height:30px}`, 2, `200,0,50,30`, `200,0,50,30`}})
}

// P141: all frames of a node: parts of lines, pieces of a text, runs that an element made; in the frames' order.
func TestRectsMany(t *testing.T) {
	holdRects(t, []rectsOf{
		{`<div>mm <b>mm mm</b></div>`, `div{width:34.5px}`, 3, `18+32,0,16,10 0,10,16,10`, `0,0,34+32,20`},
		{`<div>mm <b>mm mm</b></div>`, `div{width:34.5px}`, 4, `18+32,0,16,10 0,10,16,10`, `0,0,34+32,20`},
		{`<div>mm <b>mm mm</b></div>`, `div{width:20px}b{padding:1px}`, 3, `0,9,17,12 0,19,17,12`, `0,9,17,22`},
		{`<div><p></p>m</div>`, `div{content:"mm";margin:3px}p{height:20px}`, 1, `3,3,94,40 3,3,16,10`, `3,3,94,40`},
		{`<div><p>m</p></div>`, `p{display:list-item;width:9px}`, 2, `0,0,9,20 0,0,5,10`, `0,0,9,20`},
		{`<div><b>m</b></div>`, `b{content:"mm mm";border:1px}div{width:20px}`, 2, `0,-1,17,12 1,0,16,10 0,9,25,12 0,10,16,10`, `0,-1,25,22`},
		// One made of runs alone, which reach beyond each other.
		{`<div><b></b></div>`, `b{display:contents;content:"mm m"}div{width:16px}`, 2, `0,0,16,10 0,10,8,10`, `0,0,16,20`},
		{`<div><b>m m</b></div>`, `b{margin-left:-30px}div{width:8px}`, 3, `-30,0,18+32,10`, `-30,0,18+32,10`},
	})
}

// P141: what has no width or height is told, and counts in what is around.
func TestRectsFlat(t *testing.T) {
	holdRects(t, []rectsOf{
		{`<div></div>`, ``, 1, `0,0,100,0`, `0,0,100,0`},
		{`<div><p></p></div>`, `p{position:absolute;left:7px;top:3px}`, 2, `7,3,0,0`, `7,3,0,0`},
		{`<div>m<b></b></div>`, `div{text-indent:3px}`, 3, `11,0,0,10`, `11,0,0,10`},
		{`<div>m<b>m</b></div>`, `b{padding:1px;font-size:0;line-height:0}`, 3, `8,7,2,2`, `8,7,2,2`},
		// One part has no width: it is still what is furthest up, or on the right.
		{`<div>mm<b><br></b></div>`, `b{padding-right:2px}`, 3, `16,0,0,10 0,10,2,10`, `0,0,16,20`},
		{`<div><b>mm</b></div>`, `b{content:"m";visibility:hidden;font-size:0;padding-left:5px}`, 2, `0,8,5,0 5,8,0,0`, `0,8,5,0`},
	})
}

// P141: of 0, of what is no node, and of nodes without frames there are none; lines, which are of no node, are nobody's.
func TestRectsNone(t *testing.T) {
	const text = `<div><p>m</p><!--c--><b>m</b><s>m</s><i></i>m</div>`
	for _, id := range []int{-1, 0, -1 << 63, 1<<63 - 1, 400, 99, 4, 5, 6, 7} {
		holdRects(t, []rectsOf{{text, `b{display:none}s{display:contents}`, id, ``, `none`}})
	}
	for _, id := range []int{-1, 0, 1} {
		if l := Rects(nil, id); len(l) != 0 {
			t.Errorf("of nil: %v", l)
		}
		if got := shownAround(nil, id); got != "none" {
			t.Errorf("around, of nil: %s", got)
		}
	}
}

// P4: what is answered is new memory, and frames are only read.
func TestRectsNew(t *testing.T) {
	f := page(t, `<div><b>mm mm</b></div>`, `div{width:20px}`)
	l := Rects(f, 2)
	want := slices.Clone(l)
	for at := range l {
		l[at] = api.Rect{X: -1}
	}
	if got := Rects(f, 2); !slices.Equal(got, want) || len(got) != 2 {
		t.Errorf("%v, want %v", got, want)
	}
}

// P141: the least around any number of places, in whichever order they stand.
func TestAround(t *testing.T) {
	l := []api.Rect{{X: 5, Y: -3, W: 10, H: 2}, {X: -7, Y: 4, W: 1, H: 1}, {X: 30, Y: 0, W: 0, H: 0}, {X: 2, Y: 2, W: 3, H: 20}}
	want := api.Rect{X: -7, Y: -3, W: 37, H: 25}
	for range l {
		l = append(l[1:], l[0])
		if got, ok := around(l...); got != want || !ok {
			t.Errorf("%v: %v", l, got)
		}
	}
	for _, r := range append(l, api.Rect{}) {
		if got, ok := around(r); got != r || !ok {
			t.Errorf("%v alone: %v", r, got)
		}
	}
	if got, ok := around(); got != (api.Rect{}) || ok {
		t.Errorf("none: %v", got)
	}
}
