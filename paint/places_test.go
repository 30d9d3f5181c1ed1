package paint

import (
	"slices"
	"strings"
	"testing"

	"casement/api"
)

// holdPlaces of pages: as nodes and rects, in the order in which they are painted.
func holdPlaces(t *testing.T, pages []pageOf) {
	t.Helper()
	for _, p := range pages {
		var all []string
		for _, o := range Places(page(t, p.text, p.rules)) {
			name := named([]*sight{{Frame: o.Frame}})
			all = append(all, name+":"+px(o.Rect.X)+","+px(o.Rect.Y)+","+px(o.Rect.W)+","+px(o.Rect.H))
		}
		if got := strings.Join(all, " "); got != p.want {
			t.Errorf("%s with %s:\n%s, want\n%s", p.text, p.rules, got, p.want)
		}
	}
}

// P130: frames in order, each as it is when it is cut; of no node, and not to be seen, are there too.
func TestPlaces(t *testing.T) {
	holdPlaces(t, []pageOf{
		{`<div></div>`, ``, `1:0,0,100,0`},
		{`<div>aa<p></p></div>`, `p{height:5px}`, `1:0,0,100,15 -:0,0,100,10 3:0,10,100,5 aa:0,0,10,10`},
		{`<div>aa<p></p></div>`, `p{height:5px;position:relative;z-index:-1}`, `1:0,0,100,15 3:0,10,100,5 -:0,0,100,10 aa:0,0,10,10`},
		{`<div><p></p></div>`, `*{visibility:hidden}p{height:5px}`, `1:0,0,100,5 2:0,0,100,5`},
		{`<h><p></p></h>`, `h{width:20px;border:2px}p{height:5px;width:30px;margin-left:-7px}`, `1:0,0,24,9 2:2,2,20,5`},
	})
	if l := Places(nil); len(l) != 0 {
		t.Errorf("of nil: %v", l)
	}
}

// P130: what is cut away is not there; what has no width or height is, where nothing cuts it away.
func TestPlacesLeft(t *testing.T) {
	const one = `<h><p></p></h>`
	const each = `h{width:20px;height:20px}p{position:absolute;`
	holdPlaces(t, []pageOf{
		{one, each + `left:19px;top:3px;width:9px;height:9px}`, `1:0,0,20,20 2:19,3,1,9`},
		{one, each + `left:20px;top:3px;width:9px;height:9px}`, `1:0,0,20,20`},
		{one, each + `left:-9px;top:3px;width:9px;height:9px}`, `1:0,0,20,20`},
		{one, each + `left:3px;top:50px;width:9px;height:9px}`, `1:0,0,20,20`},
		{one, each + `left:3px;top:4px}`, `1:0,0,20,20 2:3,4,0,0`},
		{one, each + `left:3px;top:4px;height:30px}`, `1:0,0,20,20`},
		{one, each + `left:23px;top:4px}`, `1:0,0,20,20`},
		{one, each + `left:23px;top:4px}h{overflow:visible}`, `1:0,0,20,20 2:23,4,0,0`},
	})
}

// P4: what is answered is new memory.
func TestPlacesNew(t *testing.T) {
	f := page(t, `<div>a<p>b</p></div>`, ``)
	l := Places(f)
	want := slices.Clone(l)
	for at := range l {
		l[at] = Place{Rect: api.Rect{X: -1}}
	}
	if got := Places(f); !slices.Equal(got, want) || len(got) == 0 {
		t.Errorf("%v, want %v", got, want)
	}
}
