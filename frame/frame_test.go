package frame

import (
	"fmt"
	"math"
	"math/rand"
	"reflect"
	"strings"
	"testing"

	"casement/api"
	"casement/boxes"
	"casement/tree"
)

// P120: a page is from 0 to MaxLen wide and high; nothing has no frames.
func TestLayPage(t *testing.T) {
	b := made(t, `<div><p></p></div>`, `div{height:100%}p{position:absolute;inset:0}`)
	for _, c := range [][2]int{{0, 0}, {-1, 0}, {math.MinInt, 0}, {1, 1}, {api.MaxLen, api.MaxLen}, {api.MaxLen + 1, api.MaxLen}, {math.MaxInt, api.MaxLen}} {
		for _, f := range []*Frame{Lay(b, c[0], 0), Lay(b, c[0], 0).Kids[0]} {
			if f.Rect != (api.Rect{W: c[1]}) {
				t.Error(c, f.Rect)
			}
		}
		for _, f := range []*Frame{Lay(b, 7, c[0]), Lay(b, 7, c[0]).Kids[0]} {
			if f.Rect != (api.Rect{W: 7, H: c[1]}) {
				t.Error(c, f.Rect)
			}
		}
	}
	if Lay(nil, 10, 10) != nil {
		t.Error("nil")
	}
}

// Frames are of the kinds and nodes of their boxes, and have their styles; only frames of letters have texts.
func TestFrameOf(t *testing.T) {
	b := made(t, `<div>x <b>y</b><a></a><br><f>z</f></div>`, `f{position:absolute}`)
	f := Lay(b, 6400, 6400)
	var walk func(f *Frame)
	known := map[any]string{}
	var learn func(b *boxes.Box)
	learn = func(b *boxes.Box) {
		known[b.Style] += fmt.Sprint(b.Kind, " ", b.Node, ";")
		for _, k := range b.Kids {
			learn(k)
		}
	}
	learn(b)
	walk = func(f *Frame) {
		if !strings.Contains(known[f.Style], fmt.Sprint(f.Kind, " ", f.Node, ";")) || f.Kind == api.BBreak || (f.Text != "") != (f.Kind == api.BRun) {
			t.Error(f.Kind, f.Node, f.Text)
		}
		for _, k := range f.Kids {
			walk(k)
		}
	}
	walk(f)
}

// P2, P4: boxes are as they were, and each call has frames of its own.
func TestLayKeepsNothing(t *testing.T) {
	c := chance{rand.New(rand.NewSource(4))}
	for range 200 {
		d := c.tree(14)
		b, again := boxOf(t, d, ""), boxOf(t, d, "")
		f := Lay(b, 6400, 6400)
		if !reflect.DeepEqual(b, again) {
			t.Fatal("boxes are others")
		}
		want := shown(f)
		f.each(func(f *Frame) {
			f.Rect, f.Text, f.Node = api.Rect{}, "x", -1
			for n := range f.Kids {
				f.Kids[n] = &Frame{Style: f.Style}
			}
		})
		if got := shown(Lay(b, 6400, 6400)); got != want {
			t.Fatal(got, want)
		}
	}
}

// P1: each box that a call gave is laid, whatever it is, on any page.
func TestLayAnyBox(t *testing.T) {
	c := chance{rand.New(rand.NewSource(5))}
	for range 300 {
		b := boxOf(t, c.tree(14), "")
		var all func(b *boxes.Box)
		all = func(b *boxes.Box) {
			if f := Lay(b, c.Intn(9000)-100, c.Intn(9000)-100); (f == nil) != (b.Kind == api.BBreak) {
				t.Fatal(b.Kind, f)
			}
			for _, k := range b.Kids {
				all(k)
			}
		}
		all(b)
	}
}

// P1: numbers of any size are laid.
func TestLayWild(t *testing.T) {
	c := chance{rand.New(rand.NewSource(6))}
	wild := strings.NewReplacer("3px", "300000px", "7.3px", "1000000px", "10%", "1000000%", "33.3%", "-1000000%", "1em", "-900000px", "20px", "900000px", "1fr", "1000000fr", "30px", "777777.777px", "auto", "99999%")
	for range 3000 {
		d := c.tree(20)
		for _, id := range d.Under(0) {
			if text, ok := d.Attr(id, "style"); ok && c.Intn(2) == 0 {
				d.Set(id, "style", wild.Replace(text))
			}
		}
		Lay(boxOf(t, d, ""), c.Intn(3)*api.MaxLen/2, c.Intn(3)*api.MaxLen/2)
	}
}

// P1: every call ends, however deep boxes lie in boxes that are laid more than once.
func TestLayDeep(t *testing.T) {
	text := strings.Repeat("aaa bb ", 2000)
	for _, c := range []struct{ tags, styles []string }{
		{[]string{"f"}, []string{""}},
		{[]string{"f"}, []string{"flex-direction:column"}},
		{[]string{"f"}, []string{"flex-direction:column;height:90%;min-height:1px", "padding:1px;min-height:50%"}},
		{[]string{"g"}, []string{"padding:1px;min-height:51%", "max-height:70%"}},
		{[]string{"f", "g"}, []string{"flex-wrap:wrap;min-height:50%", "flex-wrap:wrap;row-gap:10%;padding:1px", "height:70%"}},
		{[]string{"a"}, []string{""}},
		{[]string{"a", "b"}, []string{"position:relative;left:1px;vertical-align:1px"}},
		{[]string{"p"}, []string{"float:left", "float:right;min-height:10%"}},
		{[]string{"p"}, []string{"position:absolute", "position:absolute;top:1px;bottom:1px"}},
		{[]string{"p"}, []string{"margin:1px", "clear:both", "padding-left:1px"}},
	} {
		d := tree.New()
		at := 0
		for n := range api.MaxNodes - 2 {
			id, _ := d.Element(c.tags[n%len(c.tags)])
			d.Set(id, "style", c.styles[n%len(c.styles)])
			d.Put(at, id, 0)
			at = id
		}
		id, _ := d.Text(text)
		d.Put(at, id, 0)
		f := Lay(boxOf(t, d, ""), 100*api.Unit, 100*api.Unit)
		deep := 0
		for ; len(f.Kids) > 0; f = f.Kids[0] {
			deep++
		}
		if deep < api.MaxNodes-3 {
			t.Error(c.tags, deep)
		}
	}
}
