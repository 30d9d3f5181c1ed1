package paint

import (
	"slices"
	"testing"

	"casement/api"
	"casement/frame"
)

func holdMarks(t *testing.T, pages []pageOf) {
	t.Helper()
	for _, p := range pages {
		if got := shown(Marks(page(t, p.text, p.rules))); got != p.want {
			t.Errorf("%s with %s:\n%s, want\n%s", p.text, p.rules, got, p.want)
		}
	}
}

// P131: a frame's background lies on its border box, unless nothing is painted there.
func TestMarksBackground(t *testing.T) {
	holdMarks(t, []pageOf{
		{`<div></div>`, `div{height:5px}`, ``},
		{`<div></div>`, `div{height:5px;background:#123456}`, `1#123456:0,0,100,5`},
		{`<div></div>`, `div{height:5px;background:transparent}`, ``},
		{`<div></div>`, `div{height:5px;background:black}`, `1#0:0,0,100,5`},
		{`<div></div>`, `div{height:5px;background:currentcolor;color:red}`, `1#ff0000:0,0,100,5`},
		{`<div></div>`, `div{height:5px;width:20px;padding:1px;margin:3px;border:2px transparent;background:red}`, `1#ff0000:3,3,26,11`},
		{`<div><p></p></div>`, `p{height:0.5px;width:1.5px;background:red}`, `2#ff0000:0,0,1+32,0+32`},
		{`<f><p></p></f>`, `*{background:red;height:2px}p{width:3px;background:blue}`, `1#ff0000:0,0,100,2 2#ff:0,0,3,2`},
	})
}

// P131: borders: above, right, below, left, each that has a width; behind the background.
func TestMarksBorder(t *testing.T) {
	holdMarks(t, []pageOf{
		{`<div></div>`, `div{height:5px;width:20px;border:2px blue;background:red}`,
			`1#ff0000:0,0,24,9 1#ff:0,0,24,2 1#ff:22,2,2,5 1#ff:0,7,24,2 1#ff:0,2,2,5`},
		{`<div></div>`, `div{height:5px;width:20px;border-width:1px 2px 3px 4px;border-color:blue}`,
			`1#ff:0,0,26,1 1#ff:24,1,2,5 1#ff:0,6,26,3 1#ff:0,1,4,5`},
		{`<div></div>`, `div{height:5px;width:20px;border-top-width:1px}`, `1#0:0,0,20,1`},
		{`<div></div>`, `div{height:5px;width:20px;border-right-width:1px}`, `1#0:20,0,1,5`},
		{`<div></div>`, `div{height:5px;width:20px;border-bottom-width:1px}`, `1#0:0,5,20,1`},
		{`<div></div>`, `div{height:5px;width:20px;border-left-width:1px;color:red}`, `1#ff0000:0,0,1,5`},
		{`<div></div>`, `div{height:5px;width:20px;border:1px transparent}`, ``},
		{`<div></div>`, `div{height:5px;width:20px;border:1px;color:transparent}`, ``},
		// Nothing is left between above and below: right and left are left out.
		{`<div></div>`, `div{height:0;width:20px;border:1px}`, `1#0:0,0,22,1 1#0:0,1,22,1`},
		{`<div></div>`, `div{height:5px;width:0;border:1px}`, `1#0:0,0,2,1 1#0:1,1,1,5 1#0:0,6,2,1 1#0:0,1,1,5`},
		{`<div></div>`, `div{height:5px;width:20px}`, ``},
	})
}

// P131: of a border that is wider than one line's part of an inline box, what lies in that part.
func TestMarksBorderOfParts(t *testing.T) {
	holdMarks(t, []pageOf{
		{`<div><b>i i</b></div>`, `div{width:4px;color:transparent}b{border:4px blue}`,
			`2#ff:0,-4,7,4 2#ff:3,0,4,10 2#ff:0,10,7,4 2#ff:0,0,4,10 ` + `2#ff:0,6,7,4 2#ff:3,10,4,10 2#ff:0,20,7,4 2#ff:0,10,4,10`},
		{`<div><b>i i</b></div>`, `div{width:4px;color:transparent}b{border:0 9px;border-width:0 9px;border-color:blue}`,
			`2#ff:3,0,9,10 2#ff:0,0,9,10 2#ff:3,10,9,10 2#ff:0,10,9,10`},
		{`<div><b>i i i</b></div>`, `div{width:3px;color:transparent}b{border-left-width:5px;border-color:blue}`,
			`2#ff:0,0,5,10 2#ff:0,10,3,10 2#ff:0,20,3,10`},
		{`<div><b>i i i</b></div>`, `div{width:3px;color:transparent}b{border-right-width:5px;border-color:blue}`,
			`2#ff:0,0,3,10 2#ff:0,10,3,10 2#ff:3,20,5,10`},
	})
}

// P131: a run is its text alone, on its place, with its color; it has neither background nor border, though its style tells its element's.
func TestMarksText(t *testing.T) {
	holdMarks(t, []pageOf{
		{`<div>aa</div>`, ``, `2#0"aa":0,0,10,10`},
		{`<div>aa</div>`, `div{color:red;text-indent:3px}`, `2#ff0000"aa":3,0,10,10`},
		{`<div>aa</div>`, `div{color:transparent}`, ``},
		{`<div>aa</div>`, `div{line-height:20px;background:blue;border-left-width:1px}`, `1#ff:0,0,100,20 1#0:0,0,1,20 2#0"aa":1,5,10,10`},
		{`<div>aa bb</div>`, `div{width:11px}`, `2#0"aa":0,0,10,10 2#0"bb":0,10,10,10`},
		{`<div><b>aa</b></div>`, `b{border:1px blue;background:red;content:"c"}`,
			`2#ff0000:0,-1,17,12 2#ff:0,-1,17,1 2#ff:16,0,1,10 2#ff:0,10,17,1 2#ff:0,0,1,10 2#0"c":1,0,5,10 3#0"aa":6,0,10,10`},
		{`<div>aa</div>`, `div{font-size:0;line-height:9px}`, ``},
	})
}

// P131: only of frames whose visibility is visible; what lies in others may be.
func TestMarksVisible(t *testing.T) {
	holdMarks(t, []pageOf{
		{`<div>a<p>b</p></div>`, `*{background:red;border-left-width:1px}div{visibility:hidden}`, ``},
		{`<div>a<p>b</p></div>`, `*{background:red}div{visibility:hidden}p{visibility:visible}`, `3#ff0000:0,10,100,10 4#0"b":0,10,5,10`},
		{`<div>a<p>b</p></div>`, `*{background:red}p{visibility:hidden}`, `1#ff0000:0,0,100,20 2#0"a":0,0,5,10`},
		// What is not visible cuts all the same.
		{`<h><p></p></h>`, `h{visibility:hidden;height:3px}p{visibility:visible;height:9px;background:red}`, `2#ff0000:0,0,100,3`},
	})
}

// P130 and P131: all that is painted is cut by the inner boxes of the frames around whose overflow is hidden, not by their own.
func TestMarksCut(t *testing.T) {
	const in = `p{width:50px;height:30px;background:red}h{width:20px;height:10px}`
	holdMarks(t, []pageOf{
		{`<div><h><p></p></h></div>`, in, `3#ff0000:0,0,20,10`},
		{`<div><h><p></p></h></div>`, in + `p{margin-left:-5px;margin-top:-3px}`, `3#ff0000:0,0,20,10`},
		{`<div><h><p></p></h></div>`, in + `p{margin:7px}`, `3#ff0000:7,7,13,3`},
		{`<div><h><p></p></h></div>`, in + `h{border:3px blue;padding:1px}`,
			`2#ff:0,0,28,3 2#ff:25,3,3,12 2#ff:0,15,28,3 2#ff:0,3,3,12 3#ff0000:4,4,21,11`},
		{`<div><h><p></p></h></div>`, in + `h{overflow:visible}`, `3#ff0000:0,0,50,30`},
		{`<div><h><p></p></h></div>`, in + `h{overflow:visible}p{overflow:hidden}`, `3#ff0000:0,0,50,30`},
		{`<div><h><p></p></h></div>`, in + `div{overflow:hidden;width:9px}`, `3#ff0000:0,0,9,10`},
		{`<div><h><p></p></h></div>`, in + `p{margin-left:20px}`, ``},
		{`<div><h><p></p></h></div>`, in + `p{margin-left:19.5px}`, `3#ff0000:19+32,0,0+32,10`},
		{`<div><h><p></p></h></div>`, in + `p{position:relative;top:-31px}`, ``},
		{`<div><h>aa aa</h></div>`, `h{height:15px;width:8px}`, `3#0"aa":0,0,8,10 3#0"aa":0,10,8,5`},
		// Each border by itself.
		{`<div><h><p></p></h></div>`, in + `p{background:transparent;border:4px blue}h{width:57px}`, `3#ff:0,0,57,4 3#ff:54,4,3,6 3#ff:0,4,4,6`},
		{`<div><h><p></p></h></div>`, in + `h{width:0}`, ``},
	})
}

// P130: whatever the position of the one that cuts, or of the one that is cut.
func TestMarksCutWherever(t *testing.T) {
	const in = `p{width:50px;height:30px;background:red}h{width:20px;height:10px}`
	for _, rules := range []string{`p{position:absolute}`, `p{position:fixed}`, `p{float:left}`, `p{position:relative;z-index:3}`, `p{position:relative;z-index:-3}`, `h{position:relative}`, `h{float:left}`, `h{position:absolute}p{position:fixed}`} {
		holdMarks(t, []pageOf{{`<div><h><p></p></h></div>`, in + rules, `3#ff0000:0,0,20,10`}})
	}
	// Around it are all, also parts of lines, rows, tables and atoms.
	holdMarks(t, []pageOf{
		{`<div><f><p></p></f></div>`, in + `f{overflow:hidden;width:20px;height:10px}p{flex-shrink:0}`, `3#ff0000:0,0,20,10`},
		{`<div><g><p></p></g></div>`, in + `g{overflow:hidden;width:20px;height:10px}`, `3#ff0000:0,0,20,10`},
		{`<div><a><p></p></a></div>`, in + `a{overflow:hidden;width:20px;height:10px}`, `3#ff0000:0,0,20,10`},
		{`<div><b><a></a></b></div>`, `b{overflow:hidden;font-size:5px;border:1px transparent}a{width:20px;height:10px;background:red}`, `3#ff0000:1,6,20,4`},
		{`<h><p></p></h>`, in, `2#ff0000:0,0,20,10`},
	})
}

// P130: a run cuts nothing, and is cut by its element's frame, not by itself.
func TestMarksCutRuns(t *testing.T) {
	holdMarks(t, []pageOf{
		{`<h>aa</h>`, `h{border-left-width:4px;width:20px;border-color:transparent}`, `2#0"aa":4,0,10,10`},
		{`<h>aa</h>`, `h{padding-left:4px;width:5px}`, `2#0"aa":4,0,5,10`},
	})
}

// P131: nothing of nil; P3 and P4: what is answered is new, and what is handed over stays as it is.
func TestMarksNew(t *testing.T) {
	if got := Marks(nil); len(got) != 0 {
		t.Error(got)
	}
	f := page(t, `<div>a<p>b</p><i>c</i></div>`, `*{background:red;border:1px}p{position:relative;z-index:-1}i{float:left}`)
	var before []frame.Frame
	var keep func(f *frame.Frame, do func(*frame.Frame))
	keep = func(f *frame.Frame, do func(*frame.Frame)) {
		do(f)
		for _, kid := range f.Kids {
			keep(kid, do)
		}
	}
	keep(f, func(f *frame.Frame) { before = append(before, *f) })
	first := Marks(f)
	want := slices.Clone(first)
	for at := range first {
		first[at] = Mark{}
	}
	if got := Marks(f); !slices.Equal(got, want) || len(got) == 0 {
		t.Errorf("%v, want %v", got, want)
	}
	keep(f, func(f *frame.Frame) {
		if f.Rect != before[0].Rect || f.Kind != before[0].Kind || f.Style != before[0].Style || !slices.Equal(f.Kids, before[0].Kids) {
			t.Error("changed:", f)
		}
		before = before[1:]
	})
}

// P131: a page of as many nodes as there may be, each in the one ahead, or one behind the other, is painted.
func TestMarksMany(t *testing.T) {
	for _, rules := range []string{``, `b{float:left}`, `b{position:relative}`, `b{position:absolute;z-index:1}`, `b{position:relative;z-index:-1}`, `b{overflow:hidden}`} {
		for _, deep := range []bool{true, false} {
			d := nested(t, deep)
			f := laid(t, d, `b{display:block;background:red;height:1px;width:1px}`+rules, 100*api.Unit, 80*api.Unit)
			if got, want := len(Marks(f)), len(d.Under(0))-2; got != want {
				t.Errorf("%s: %d, want %d", rules, got, want)
			}
		}
	}
}
