package hit

import (
	"math"
	"testing"

	"casement/api"
)

// point of a page, in pixels, and the node that stands there.
type point struct {
	x, y float64
	want int
}

// pointsOf a page.
type pointsOf struct {
	text, rules string
	points      []point
}

func holdPoints(t *testing.T, pages []pointsOf) {
	t.Helper()
	for _, p := range pages {
		f := page(t, p.text, p.rules)
		for _, c := range p.points {
			if got := At(f, int(c.x*api.Unit), int(c.y*api.Unit)); got != c.want {
				t.Errorf("%s with %s at %g, %g: %d, want %d", p.text, p.rules, c.x, c.y, got, c.want)
			}
		}
	}
}

// P140: a rect has its left and upper edge, not its right and lower one.
func TestAtEdges(t *testing.T) {
	f := page(t, `<div><p></p></div>`, `p{margin:3px 5px;width:20px;height:10px;border:1px;padding:2px}div{overflow:hidden}`)
	const left, above, right, below = 5 * api.Unit, 3 * api.Unit, 31 * api.Unit, 19 * api.Unit
	for _, c := range [][3]int{
		{left, above, 2}, {left - 1, above, 1}, {left, above - 1, 1}, {left - 1, above - 1, 1},
		{right - 1, below - 1, 2}, {right, below - 1, 1}, {right - 1, below, 1}, {right, below, 1},
		{left, below - 1, 2}, {left, below, 1}, {right - 1, above, 2}, {right, above, 1},
		{0, 0, 1}, {-1, 0, -1}, {0, -1, -1}, {100*api.Unit - 1, 22*api.Unit - 1, 1}, {100 * api.Unit, 0, -1}, {0, 22 * api.Unit, -1},
	} {
		if got := At(f, c[0], c[1]); got != c[2] {
			t.Errorf("%d, %d: %d, want %d", c[0], c[1], got, c[2])
		}
	}
}

// P140: any numbers are a point; of nil nothing stands anywhere.
func TestAtFar(t *testing.T) {
	f := page(t, `<div><p></p></div>`, `div{height:20px}p{height:10px;position:relative;top:-30px;left:-7px}`)
	for _, c := range [][3]int{
		{math.MinInt, math.MinInt, -1}, {math.MaxInt, math.MaxInt, -1}, {math.MinInt, 0, -1}, {0, math.MaxInt, -1}, {math.MaxInt, math.MinInt, -1},
		{-7 * api.Unit, -30 * api.Unit, 2}, {93*api.Unit - 1, -20*api.Unit - 1, 2}, {-7*api.Unit - 1, -30 * api.Unit, -1}, {93 * api.Unit, -25 * api.Unit, -1},
	} {
		if got := At(f, c[0], c[1]); got != c[2] {
			t.Errorf("%d, %d: %d, want %d", c[0], c[1], got, c[2])
		}
		if got := At(nil, c[0], c[1]); got != -1 {
			t.Errorf("of nil: %d", got)
		}
	}
	far := page(t, `<div><p></p></div>`, `p{height:1px;width:1px;margin-left:200000px}`)
	if got := At(far, 200000*api.Unit, 0); got != 2 {
		t.Errorf("far out: %d", got)
	}
}

// P140: of those that have the point the last one in the order of P130, not in the frames' order.
func TestAtOrder(t *testing.T) {
	const two = `<div><b></b><i></i></div>`
	const each = `b,i{position:absolute;width:20px;height:20px}i{left:10px;top:10px}`
	both := func(n int) []point { return []point{{15, 15, n}, {5, 5, 2}, {25, 25, 3}, {25, 5, -1}} }
	holdPoints(t, []pointsOf{
		{two, each, both(3)},
		{two, each + `b{z-index:1}`, both(2)},
		{two, each + `i{z-index:-1}`, both(2)},
		{two, each + `b{z-index:1}i{z-index:1}`, both(3)},
		{two, each + `b{z-index:2}i{z-index:1}`, both(2)},
		{two, each + `b{z-index:0}`, both(3)},
		// The background of what makes the layer is behind what is below in it.
		{two, each + `i{z-index:-1}div{height:40px}`, []point{{15, 15, 2}, {25, 25, 3}, {35, 35, 1}}},
		// What lies in a layer is as far ahead as that is.
		{`<div><p><b></b></p><i></i></div>`, each + `p{position:relative;z-index:1}b{z-index:-9}i{z-index:0}`, []point{{15, 15, 3}, {25, 25, 4}}},
		{`<div><p><b></b></p><i></i></div>`, each + `p{position:relative;z-index:0}b{z-index:9}i{z-index:1}`, []point{{15, 15, 4}, {5, 5, 3}}},
	})
	const mixed = `<div><b></b>mm<p></p></div>`
	holdPoints(t, []pointsOf{
		{mixed, `p{height:10px;margin-top:-10px}`, []point{{1, 1, 3}, {50, 1, 4}}},
		{mixed, `p{height:10px;margin-top:-10px}b{float:left;width:5px;height:10px}`, []point{{1, 1, 2}, {6, 1, 3}, {50, 1, 4}}},
		{mixed, `p{height:10px;margin-top:-10px;position:relative}b{float:left;width:5px;height:10px}`, []point{{1, 1, 4}, {6, 1, 4}}},
		{`<div>mm<b></b></div>`, `b{float:left;width:5px;height:10px;margin-right:-5px}`, []point{{1, 1, 2}}},
		{`<div><h>m</h><p></p></div>`, `p{height:10px;margin-top:-10px}`, []point{{1, 1, 3}, {50, 1, 4}}},
	})
}

// P140: what is not visible, or takes no points, stands nowhere; what lies in it may.
func TestAtSeen(t *testing.T) {
	const nested = `<div><p>mm<b></b></p></div>`
	const each = `div{height:40px}p{height:20px}b{display:block;height:5px}`
	holdPoints(t, []pointsOf{
		{nested, each, []point{{1, 5, 3}, {50, 5, 2}, {1, 12, 4}, {1, 17, 2}, {1, 30, 1}}},
		{nested, each + `p{visibility:hidden}`, []point{{1, 5, 1}, {1, 12, 1}, {1, 17, 1}}},
		{nested, each + `p{visibility:hidden}b{visibility:visible}`, []point{{1, 5, 1}, {1, 12, 4}, {1, 17, 1}}},
		{nested, each + `p{pointer-events:none}`, []point{{1, 5, 1}, {1, 12, 1}, {1, 17, 1}}},
		{nested, each + `p{pointer-events:none}b{pointer-events:auto}`, []point{{1, 5, 1}, {1, 12, 4}, {1, 17, 1}}},
		{nested, each + `p{pointer-events:none}b{pointer-events:auto;visibility:hidden}`, []point{{1, 12, 1}}},
		{nested, each + `div{pointer-events:none}`, []point{{1, 5, -1}, {1, 12, -1}, {1, 30, -1}}},
		{nested, each + `div{visibility:hidden}`, []point{{1, 5, -1}, {1, 12, -1}, {1, 30, -1}}},
		{nested, each + `div{display:none}`, []point{{1, 5, -1}}},
		{nested, each + `b{display:none}`, []point{{1, 5, 3}, {1, 12, 2}}},
		// Whether anything is painted there says nothing.
		{nested, each + `*{background:transparent;color:transparent}`, []point{{1, 5, 3}, {1, 12, 4}, {1, 30, 1}}},
		{nested, each + `p{position:absolute;z-index:3;pointer-events:none}`, []point{{1, 5, 1}}},
	})
}

// P140: texts stand where their runs are: their own node, or the element's that made them. What is of no node is not there.
func TestAtNodes(t *testing.T) {
	holdPoints(t, []pointsOf{
		{`<div>mm</div>`, ``, []point{{0, 0, 2}, {15.5, 9.5, 2}, {16, 5, 1}, {99, 5, 1}}},
		{`<div>mm</div>`, `div{line-height:20px}`, []point{{1, 4, 1}, {1, 5, 2}, {1, 14, 2}, {1, 15, 1}}},
		{`<div><b>mm</b>m</div>`, `b{content:"mm"}`, []point{{1, 1, 2}, {17, 1, 3}, {33, 1, 4}, {41, 1, 1}}},
		{`<div>m<b>m</b></div>`, `b{padding:2px;border:1px}`, []point{{9, 1, 3}, {11, 1, 4}, {20, 1, 3}, {9, -2, 3}, {9, -4, -1}, {12, 12, 3}, {12, 13, -1}}},
		{`<div><b>mm mm</b></div>`, `div{width:20px}`, []point{{1, 5, 3}, {1, 15, 3}, {17, 5, 1}, {17, 15, 1}}},
		{`<div>m<a></a></div>`, `a{width:7px;height:10px}`, []point{{1, 1, 1}, {1, 2, 2}, {8, 1, 3}, {15, 1, 1}}},
		// An item of no node, with a text.
		{`<f>m<b></b></f>`, `f{height:20px}b{width:30px}`, []point{{1, 1, 2}, {1, 11, 1}, {9, 1, 3}, {39, 1, 1}}},
		{`<g>m<b></b></g>`, `b{height:30px}`, []point{{1, 1, 2}, {1, 11, 3}, {9, 1, 1}, {9, 11, 1}}},
		// Lines are of no node: what lies behind them stands there.
		{`<div><p></p>m</div>`, `p{height:10px;margin-bottom:-10px}`, []point{{1, 1, 3}, {50, 1, 2}}},
	})
}

// P140: a rect counts as it is when it is cut, by the inner boxes around it, not by its own.
func TestAtCut(t *testing.T) {
	const one = `<div><h><p></p></h></div>`
	const each = `div{height:60px}h{width:20px;height:10px}p{width:50px;height:30px}`
	out := []point{{19, 9, 3}, {20, 9, 1}, {19, 10, 1}}
	holdPoints(t, []pointsOf{
		{one, each, out},
		{one, each + `h{overflow:visible}`, []point{{19, 9, 3}, {20, 9, 3}, {49, 29, 3}, {50, 29, 1}}},
		{one, each + `h{overflow:visible}p{overflow:hidden}`, []point{{49, 29, 3}, {50, 29, 1}}},
		{one, each + `p{position:absolute}`, out},
		{one, each + `p{position:fixed}`, out},
		{one, each + `p{float:left}`, out},
		{one, each + `p{position:relative;z-index:1}`, out},
		{one, each + `h{visibility:hidden}p{visibility:visible}`, out},
		{one, each + `h{pointer-events:none}p{pointer-events:auto}`, out},
		// Behind its borders; they themselves, and its padding, are there.
		{one, each + `h{border:3px;padding:2px;height:30px}p{margin:-9px}`, []point{{2, 2, 2}, {3, 3, 3}, {26, 23, 3}, {27, 23, 2}, {29, 23, 2}, {30, 23, 1}, {26, 25, 3}, {26, 26, 2}, {3, 39, 2}, {3, 40, 1}}},
		{one, each + `p{margin-left:20px}`, []point{{19, 9, 2}, {20, 9, 1}, {30, 9, 1}}},
		{`<h><p></p></h>`, each, []point{{19, 9, 2}, {20, 9, -1}, {19, 10, -1}}},
		{`<h><h><p></p></h></h>`, each + `h>h{width:40px;height:6px}`, []point{{19, 5, 3}, {20, 5, -1}, {19, 6, 1}}},
		{`<h>mm mm</h>`, `h{width:10px;height:15px}`, []point{{9, 9, 2}, {10, 9, -1}, {9, 14, 2}, {9, 15, -1}}},
	})
}

// P140: what has no width or no height has no point.
func TestAtFlat(t *testing.T) {
	for _, size := range []string{`width:0;height:9px`, `width:9px;height:0`, `width:0;height:0`} {
		holdPoints(t, []pointsOf{{`<div><p></p></div>`, `div{height:20px}p{position:absolute;left:3px;top:3px;` + size + `}`, []point{{3, 3, 1}, {4, 3, 1}, {3, 4, 1}, {2, 2, 1}}}})
	}
	// A part of a line that ends ahead of where it begins.
	holdPoints(t, []pointsOf{{`<div>mmmm<b><i>m</i></b></div>`, `i{margin-left:-20px}`, []point{{13, 1, 5}, {25, 1, 2}, {33, 1, 1}}}})
	holdPoints(t, []pointsOf{{`<div></div>`, ``, []point{{0, 0, -1}, {5, 0, -1}}}})
}
