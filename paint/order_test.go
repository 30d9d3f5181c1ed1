package paint

import (
	"testing"
)

// pageOf a test: a markup, rules, and what is asked of it.
type pageOf struct{ text, rules, want string }

func holdOrder(t *testing.T, pages []pageOf) {
	t.Helper()
	for _, p := range pages {
		if got := named(ordered(seen(page(t, p.text, p.rules), everywhere()))); got != p.want {
			t.Errorf("%s with %s:\n%s, want\n%s", p.text, p.rules, got, p.want)
		}
	}
}

// P130, 1., 3. and 5.: blocks of all kinds, each ahead of its kids, then what stands in lines.
func TestOrderPlain(t *testing.T) {
	holdOrder(t, []pageOf{
		{`<div></div>`, ``, `1`},
		{`<div>x<p>y</p>z</div>`, ``, `1 - 3 - - x y z`},
		{`<div><p><p></p></p><f><b>x</b></f><g><p>y</p></g></div>`, ``, `1 2 3 4 5 - 7 8 - x y`},
		{`<div><b>x<i>y</i></b>z<p>w</p></div>`, ``, `1 - 7 - 2 x 4 y z w`},
		{`<div><b>x <i>y</i> z</b></div>`, `div{width:5px}`, `1 - 2 x 2 4 y 2 z`},
		{`<div><b>x<p>y</p></b></div>`, ``, `1 2 - 4 - x y`},
	})
}

// P130, 4.: what floats stands behind blocks, and ahead of lines, each with all that lies in it.
func TestOrderFloats(t *testing.T) {
	holdOrder(t, []pageOf{
		{`<div>x<b>y</b><p>z</p></div>`, `b{float:left}`, `1 - 5 - 3 - y x z`},
		{`<div>x<b>y</b><p>z</p></div>`, `b{float:right}`, `1 - 5 - 3 - y x z`},
		{`<div><b>x</b><p></p><i>y</i></div>`, `b,i{float:left}`, `1 4 2 - x 5 - y`},
		// A float in a float is of the outer one: behind its blocks, ahead of its lines.
		{`<div><b>x<i>y</i><p>z</p></b><s></s>w</div>`, `b,i,s{float:left}`, `1 - 2 - 6 - 4 - y x z 8 w`},
		// A float in a part of a line is no kid of that part.
		{`<div><b>x<i>y</i>z</b></div>`, `i{float:left}`, `1 - 4 - y 2 x z`},
		// One that is an item floats too, though it is not laid so.
		{`<div><f><b></b><i></i></f><g><s></s><u></u></g></div>`, `b,s{float:left}`, `1 2 4 5 7 3 6`},
	})
}

// P130, 5.: an atom stands where it does among what is in lines, with all that lies in it.
func TestOrderAtoms(t *testing.T) {
	holdOrder(t, []pageOf{
		{`<div>x<a>y<p>z</p></a>w</div>`, ``, `1 - x 3 - 5 - y z w`},
		{`<div><p>v</p>x<b>u<a>y</a>t</b>w</div>`, ``, `1 2 - - v x 5 u 7 - y t w`},
		{`<div>x<a>y<i>z</i><a>w</a></a></div>`, `i{float:left}`, `1 - x 3 - 5 - z y 7 - w`},
		{`<div>x<i></i><a>y<b></b></a></div>`, `i,b{float:left}`, `1 - 3 x 4 - 6 y`},
		{`<div>x<b>u<a>y</a></b></div>`, `b{float:left}`, `1 - 3 - u 5 - y x`},
	})
}

// P130, 6.: what is lifted stands behind all that is not, in the frames' order, each with all that lies in it but what is lifted itself.
func TestOrderLifted(t *testing.T) {
	for _, position := range []string{"relative", "absolute", "fixed"} {
		place := `{position:` + position + `}`
		holdOrder(t, []pageOf{
			{`<div><p>x</p><h>y</h></div>`, `p` + place, `1 4 - y 2 - x`},
			{`<div><p>x<h>y</h></p><p>z</p></div>`, `p,h` + place, `1 2 - x 4 - y 6 - z`},
			{`<div><p><h><s>y</s></h>x<h>z</h></p></div>`, `p,s{display:block}s` + place, `1 2 3 - 7 - x z 4 - y`},
			// One that floats by its style, too, is lifted.
			{`<div><b>x</b><i>y</i></div>`, `b,i{float:left}b` + place, `1 4 - y 2 - x`},
		})
	}
	holdOrder(t, []pageOf{
		{`<div>x<b>y</b>z</div>`, `b{position:relative}`, `1 - x z 3 y`},
		{`<div>x<b>y<i>z</i></b>w</div>`, `b,i{position:relative}`, `1 - x w 3 y 5 z`},
		{`<div>x<a>y</a>z</div>`, `a{position:relative}`, `1 - x z 3 - y`},
		// In a float, or an atom, or a part of a line: it is the layer's.
		{`<div><b>x<i>y</i></b>z</div>`, `b{float:left}i{position:relative}`, `1 - 2 - x z 4 y`},
		{`<div>w<a>x<i>y</i></a>z</div>`, `i{position:relative}`, `1 - w 3 - x z 5 y`},
		{`<div><b>x<i>y</i></b>z</div>`, `i{position:relative}`, `1 - 2 x z 4 y`},
		// With a float and an atom of its own.
		{`<div><p>w<i>x</i><a>y</a></p>z</div>`, `p{position:relative}i{float:left}`, `1 - z 2 - 4 - x w 6 - y`},
		// Each line's part of one is lifted.
		{`<div>x <b>y z</b> w</div>`, `b{position:relative}div{width:5px}`, `1 - x w 3 y 3 z`},
	})
}

// P130, 2., 6. and 7.: layers, by depth, then in order; each with all that lies in it.
func TestOrderLayers(t *testing.T) {
	const three = `<div>v<p>x</p><p>y</p><p>z</p></div>`
	const each = `p{position:relative;z-index:0}`
	holdOrder(t, []pageOf{
		{three, each, `1 - v 3 - x 5 - y 7 - z`},
		{three, each + `p:nth-child(1){z-index:2}p:nth-child(2){z-index:1}`, `1 - v 7 - z 5 - y 3 - x`},
		{three, each + `p:nth-child(1){z-index:-1}p:nth-child(2){z-index:-2}`, `1 5 - y 3 - x - v 7 - z`},
		{three, each + `p:nth-child(2){z-index:auto}`, `1 - v 3 - x 5 - y 7 - z`},
		{three, each + `p:nth-child(1){z-index:auto}`, `1 - v 3 - x 5 - y 7 - z`},
		{three, each + `p{z-index:5}`, `1 - v 3 - x 5 - y 7 - z`},
		{three, each + `p{z-index:-5}`, `1 3 - x 5 - y 7 - z - v`},
		{three, each + `p{z-index:10}p:nth-child(2){z-index:9}`, `1 - v 5 - y 3 - x 7 - z`},
		{three, each + `p:nth-child(1){z-index:1000000}p:nth-child(2){z-index:-1000000}`, `1 5 - y - v 7 - z 3 - x`},
		// Without a position z-index says nothing.
		{three, `p{z-index:-1}`, `1 - 3 - 5 - 7 - v x y z`},
		{three, `p{z-index:1}p:nth-child(1){position:absolute}p:nth-child(2){position:fixed;z-index:-1}`, `1 5 - y - 7 - v z 3 - x`},
	})
}

// P130: a layer's depth counts in the layer that it lies in; one in what floats, is lifted, or is an atom, is of the layer around that.
func TestOrderNested(t *testing.T) {
	const two = `<div><p>x<h>y</h></p><f></f></div>`
	holdOrder(t, []pageOf{
		{two, `p,h,f{position:relative}p{z-index:1}h{z-index:9}f{z-index:5}`, `1 2 - x 4 - y 6`},
		{two, `p,h,f{position:relative}p{z-index:1}h{z-index:-9}f{z-index:-5}`, `1 6 2 4 - y - x`},
		{two, `p,h,f{position:relative}p{z-index:6}h{z-index:9}f{z-index:5}`, `1 6 2 - x 4 - y`},
		{two, `p,h,f{position:relative}h{z-index:9}f{z-index:5}`, `1 2 - x 6 4 - y`},
		{two, `p,h,f{position:relative}h{z-index:-9}f{z-index:-5}`, `1 4 - y 6 2 - x`},
		{two, `h,f{position:relative}p{float:left}h{z-index:-9}f{z-index:0}`, `1 4 - y 2 - x 6`},
		{two, `h,f{position:relative}p{float:left}h{z-index:0}f{z-index:0}`, `1 2 - x 4 - y 6`},
		{two, `p{position:relative;z-index:0}h{position:relative}`, `1 6 2 - x 4 - y`},
		{two, `p{position:relative;z-index:-1}h{position:relative}`, `1 2 - x 4 - y 6`},
		{`<div>x<a>y<i>z</i></a></div>`, `i{position:relative;z-index:-1}`, `1 5 z - x 3 - y`},
		{`<div>x<a>y<i>z</i></a></div>`, `a,i{position:relative;z-index:-1}`, `1 3 5 z - y - x`},
	})
}

// P130: the root makes a layer, whatever its position, float and z-index are.
func TestOrderRoot(t *testing.T) {
	for _, rules := range []string{``, `div{position:relative}`, `div{position:relative;z-index:-3}`, `div{position:absolute;z-index:3}`, `div{float:left}`, `div{position:fixed}`} {
		holdOrder(t, []pageOf{
			{`<div>x<p>y</p><i>z</i><h></h></div>`, rules + `p{position:relative;z-index:-1}i{float:left}h{position:relative;z-index:2}`, `1 3 - y - 5 - z x 7`},
		})
	}
	holdOrder(t, []pageOf{
		{`<i>x<b>y</b></i>`, `b{position:relative}`, `1 - x 3 y`},
		{`<a>x<b>y</b></a>`, `b{float:left}`, `1 - 3 - y x`},
		{`<f><b></b><i></i></f>`, `b{position:relative}`, `1 3 2`},
	})
}

// P130: runs have no position, float and z-index of their own, though their style tells their element's.
func TestOrderRuns(t *testing.T) {
	holdOrder(t, []pageOf{
		{`<div>x<p>y</p></div>`, `div{position:relative;z-index:-1}`, `1 - 3 - x y`},
		{`<div><p>x</p>y</div>`, `p{position:relative;z-index:3;content:"c"}`, `1 - y 2 - c x`},
		{`<div><b>x</b>y</div>`, `b{float:left;content:"c"}`, `1 - 2 - c x y`},
		{`<div>y<b>x</b></div>`, `b{position:relative;content:"c"}`, `1 - y 3 c x`},
	})
}
