package frame

import (
	"strings"
	"testing"

	"casement/api"
	"casement/tree"
)

// P121: lines by what their part's style says.
func TestLines(t *testing.T) {
	holdPages(t, []pageOf{
		{`<div>aa aa</div>`, ``,
			`B1:0,0,100,10(L0:0,0,100,10("aa aa":0,0,22+32,10))`},
		{`<div>aa aa aa</div>`, `div{width:16px}`,
			`B1:0,0,16,30(L0:0,0,16,30("aa":0,0,10,10 "aa":0,10,10,10 "aa":0,20,10,10))`},
		{`<div>aa aa aa</div>`, `div{width:18px;text-align:right}`,
			`B1:0,0,18,30(L0:0,0,18,30("aa":8,0,10,10 "aa":8,10,10,10 "aa":8,20,10,10))`},
		{`<div>aa aa aa aa</div>`, `div{width:27px;text-align:justify}`,
			`B1:0,0,27,20(L0:0,0,27,20("aa aa":0,0,27,10 "aa aa":0,10,22+32,10))`},
		{`<div>aa aa</div>`, `div{width:18px;text-indent:4px}`,
			`B1:0,0,18,20(L0:0,0,18,20("aa":4,0,10,10 "aa":0,10,10,10))`},
		{`<div>aa aa</div>`, `div{width:30px;text-align:center;text-indent:3px}`,
			`B1:0,0,30,10(L0:0,0,30,10("aa aa":5+16,0,22+32,10))`},
		{`<div>aa<br>a</div>`, ``,
			`B1:0,0,100,20(L0:0,0,100,20("aa":0,0,10,10 "a":0,10,5,10))`},
		{`<div>a</div>`, `div{line-height:2.05}`,
			`B1:0,0,100,20+32(L0:0,0,100,20+32("a":0,5+16,5,10))`},
		{`<div>a</div>`, `div{line-height:normal}`,
			`B1:0,0,100,12+32(L0:0,0,100,12+32("a":0,1+16,5,10))`},
		{`<div>a<b>a</b></div>`, `b{line-height:20px;font-size:5px}`,
			`B1:0,0,100,20(L0:0,0,100,20("a":0,3+32,5,10 I3:5,7+32,2+32,5("a":5,7+32,2+32,5)))`},
		{`<div>a<p></p>a</div>`, `p{margin:3px 0;height:1px}`,
			`B1:0,0,100,27(L0:0,0,100,10("a":0,0,5,10) B3:0,13,100,1 L0:0,17,100,10("a":0,17,5,10))`},
		{`<div><p> a </p> <p>a</p></div>`, `p{margin:3px 0}`,
			`B1:0,0,100,29(B2:0,3,100,10(L0:0,3,100,10("a":0,3,5,10)) B5:0,16,100,10(L0:0,16,100,10("a":0,16,5,10)))`},
	})
}

// P121: the mode of each run is its own.
func TestModes(t *testing.T) {
	for _, c := range [][2]string{
		{`normal`, `B1:0,0,5,30(L0:0,0,5,30("a":0,0,5,10 "a":0,10,5,10 "a":0,20,5,10))`},
		{`nowrap`, `B1:0,0,5,10(L0:0,0,5,10("a a a":0,0,20,10))`},
		{`pre`, `B1:0,0,5,20(L0:0,0,5,20("a  a":0,0,15,10 "a":0,10,5,10))`},
		{`pre-wrap`, `B1:0,0,5,30(L0:0,0,5,30("a":0,0,5,10 "a":0,10,5,10 "a":0,20,5,10))`},
		{`pre-line`, `B1:0,0,5,30(L0:0,0,5,30("a":0,0,5,10 "a":0,10,5,10 "a":0,20,5,10))`},
	} {
		holdPages(t, []pageOf{{"<div>a  a\na</div>", `div{width:5px;white-space:` + c[0] + `}`, c[1]}})
	}
	holdPages(t, []pageOf{
		{"<div>a  a\na</div>", `div{width:30px;white-space:pre-wrap}`, `B1:0,0,30,20(L0:0,0,30,20("a  a":0,0,15,10 "a":0,10,5,10))`},
		{"<div>a  a\na</div>", `div{width:30px;white-space:pre-line}`, `B1:0,0,30,20(L0:0,0,30,20("a a":0,0,12+32,10 "a":0,10,5,10))`},
		{"<div>a a<b>\na</b></div>", `b{white-space:pre}`, `B1:0,0,100,20(L0:0,0,100,20("a a":0,0,12+32,10 I3:12+32,0,0,10 I3:0,10,5,10("a":0,10,5,10)))`},
	})
}

// P121: floats are holes, also those that reach into the room by nothing; what is aside in a line lies ahead of it.
func TestHoles(t *testing.T) {
	holdPages(t, []pageOf{
		{`<div><b></b>aa aa aa aa</div>`, `div{width:30px}b{float:left;width:12px;height:10px}`,
			`B1:0,0,30,30(L0:0,0,30,30(B2:0,0,12,10 "aa":12,0,10,10 "aa aa":0,10,22+32,10 "aa":0,20,10,10))`},
		{`<div><b></b>aa aa aa aa</div>`, `div{width:30px}b{float:right;width:12px;height:11px}`,
			`B1:0,0,30,30(L0:0,0,30,30(B2:18,0,12,11 "aa":0,0,10,10 "aa":0,10,10,10 "aa aa":0,20,22+32,10))`},
		{`<div><b></b>aa aa aa aa</div>`, `div{width:30px}b{float:left;width:22px;height:7px}`,
			`B1:0,0,30,27(L0:0,0,30,27(B2:0,0,22,7 "aa aa":0,7,22+32,10 "aa aa":0,17,22+32,10))`},
		{`<div><b></b><p>aa aa</p></div>`, `div{width:30px}b{float:left;width:12px;height:10px}p{margin:4px 5px}`,
			`B1:0,0,30,28(B2:0,0,12,10 B3:5,4,20,20(L0:5,4,20,20("aa":12,4,10,10 "aa":5,14,10,10)))`},
		{`<div><b></b><p>aa aa</p></div>`, `div{width:30px}b{float:right;width:12px;height:10px}p{margin:4px 5px}`,
			`B1:0,0,30,28(B2:18,0,12,10 B3:5,4,20,20(L0:5,4,20,20("aa":5,4,10,10 "aa":5,14,10,10)))`},
		{`<div><b></b><p>aa aa</p></div>`, `div{width:30px}b{float:left;width:4px;height:10px}p{margin:0 5px}`,
			`B1:0,0,30,20(B2:0,0,4,10 B3:5,0,20,20(L0:5,0,20,20("aa":5,0,10,10 "aa":5,10,10,10)))`},
		{`<div><b></b><p>aaaaa</p></div>`, `div{width:30px}b{float:left;width:4px;height:7px}p{margin:0 5px}`,
			`B1:0,0,30,17(B2:0,0,4,7 B3:5,0,20,17(L0:5,0,20,17("aaaaa":5,7,25,10)))`},
		{`<div>aa <b></b>aa</div>`, `b{float:left;width:12px;height:10px}`,
			`B1:0,0,100,10(L0:0,0,100,10(B3:0,0,12,10 "aa ":12,0,12+32,10 "aa":24+32,0,10,10))`},
		{`<div>aa <i>a<b></b></i>aa</div>`, `b{float:left;width:12px;height:10px}`,
			`B1:0,0,100,10(L0:0,0,100,10(B5:0,0,12,10 "aa ":12,0,12+32,10 I3:24+32,0,5,10("a":24+32,0,5,10) "aa":29+32,0,10,10))`},
		{`<div><p></p>aa <i>a<b></b></i>aa</div>`, `p{height:1px;margin-bottom:2px}b{position:absolute;width:12px;height:10px}`,
			`B1:0,0,100,13(B2:0,0,100,1 L0:0,3,100,10(B6:0,3,12,10 "aa ":0,3,12+32,10 I4:12+32,3,5,10("a":12+32,3,5,10) "aa":17+32,3,10,10))`},
	})
}

// P121: parts of a line rise together with those around them; what a block says of it does not count.
func TestRises(t *testing.T) {
	holdPages(t, []pageOf{
		{`<div>a<b>a<i>a</i></b></div>`, `b{vertical-align:super}i{vertical-align:sub}`,
			`B1:0,0,100,13+21(L0:0,0,100,13+21("a":0,3+21,5,10 I3:5,0,10,10("a":5,0,5,10 I5:10,2,5,10("a":10,2,5,10))))`},
		{`<div>a<b>a<i>a</i></b></div>`, `b{vertical-align:4px}i{vertical-align:-6px;font-size:20px;line-height:4px}`,
			`B1:0,0,100,14(L0:0,0,100,14("a":0,4,5,10 I3:5,0,15,10("a":5,0,5,10 I5:10,-2,10,20("a":10,-2,10,20))))`},
		{`<div>a<b>a</b></div>`, `b{vertical-align:sub;font-size:10.1px;line-height:10px}`, // 646 parts: 129 lower
			`B1:0,0,100,12(L0:0,0,100,12("a":0,0,5,10 I3:5,1+61,5+3,10+6("a":5,1+61,5+3,10+6)))`},
		{`<div><b>a</b></div>`, `div{vertical-align:4px}`,
			`B1:0,0,100,10(L0:0,0,100,10(I2:0,0,5,10("a":0,0,5,10)))`},
	})
}

// P121: a part of lines has a frame in each line that has something of it, with its edges, without its margins.
func TestInlines(t *testing.T) {
	holdPages(t, []pageOf{
		{`<div><b>a</b></div>`, `b{margin:1px 2px 3px 4px;border-left-width:5px;border-top-width:6px;padding:7px 8px 9px 10px}`,
			`B1:0,0,100,10(L0:0,0,100,10(I2:4,-13,28,32("a":19,0,5,10)))`},
		{`<div>a<b>a<i>a</i>a</b>a</div>`, `b{padding:0 1px;margin:0 2px}i{padding:0 3px;margin:0 4px}`,
			`B1:0,0,100,10(L0:0,0,100,10("a":0,0,5,10 I3:7,0,31,10("a":8,0,5,10 I5:17,0,11,10("a":20,0,5,10) "a":32,0,5,10) "a":40,0,5,10))`},
		{`<div>a <b>aa aa aa</b> a</div>`, `div{width:20px}b{padding:0 1px;margin:0 1px}`,
			`B1:0,0,20,30(L0:0,0,20,30("a ":0,0,7+32,10 I3:8+32,0,11,10("aa":9+32,0,10,10) I3:0,10,10,10("aa":0,10,10,10) I3:0,20,11,10("aa":0,20,10,10) " a":12,20,7+32,10))`},
		{`<div>a <b>aa <i>aa</i></b></div>`, `div{width:20px}i{margin:0 3px}`,
			`B1:0,0,20,20(L0:0,0,20,20("a ":0,0,7+32,10 I3:7+32,0,10,10("aa":7+32,0,10,10) I3:0,10,16,10(I5:3,10,10,10("aa":3,10,10,10))))`},
		{`<div><b>aaa<br></b></div>`, ``,
			`B1:0,0,100,10(L0:0,0,100,10(I2:0,0,15,10("aaa":0,0,15,10)))`},
		{`<div><b></b></div>`, ``,
			`B1:0,0,100,0(L0:0,0,100,0)`},
		{`<div>a<b></b></div>`, `b{padding:10%}`,
			`B1:0,0,100,10(L0:0,0,100,10("a":0,0,5,10 I3:5,-10,20,30))`},
		{`<div>a<b></b></div>`, `b{margin:auto}`,
			`B1:0,0,100,10(L0:0,0,100,10("a":0,0,5,10 I3:5,0,0,10))`},
		{`<div><b></b><i></i></div>`, `b{margin:2px;padding:0 1px}`,
			`B1:0,0,100,10(L0:0,0,100,10(I2:2,0,2,10 I3:6,0,0,10))`},
		{`<div><b><i></i></b>a</div>`, `b{margin:0 10%}i{float:left;width:5px;height:10px}`,
			`B1:0,0,100,10(L0:0,0,100,10(B3:0,0,5,10 I2:15,0,0,10 "a":25,0,5,10))`},
		{`<div><p></p><b></b></div>`, `p{height:1px;margin-bottom:4px}`,
			`B1:0,0,100,5(B2:0,0,100,1 L0:0,5,100,0)`},
	})
}

// P121: atoms stand with their margins, on the base of their last line, if they have one that is to be seen.
func TestAtoms(t *testing.T) {
	holdPages(t, []pageOf{
		{`<div>a<a></a></div>`, `a{width:10px;height:20px;margin:1px 2px 3px 4px}`,
			`B1:0,0,100,26(L0:0,0,100,26("a":0,16,5,10 A3:9,1,10,20))`},
		{`<div>a<a>aa</a></div>`, `a{padding:1px;border:2px;margin:3px}`,
			`B1:0,0,100,22(L0:0,0,100,22("a":0,6,5,10 A3:8,3,16,16(L0:11,6,10,10("aa":11,6,10,10))))`},
		{`<div>a<a>aa</a></div>`, `a{padding:1px 0 4px;margin:3px 0 9px}`,
			`B1:0,0,100,27(L0:0,0,100,27("a":0,4,5,10 A3:5,3,10,15(L0:5,4,10,10("aa":5,4,10,10))))`},
		{`<div>a<a>aa<br>a</a></div>`, ``,
			`B1:0,0,100,20(L0:0,0,100,20("a":0,10,5,10 A3:5,0,10,20(L0:5,0,10,20("aa":5,0,10,10 "a":5,10,5,10))))`},
		{`<div>a<a>aa<br>a</a></div>`, `a{overflow:hidden}`,
			`B1:0,0,100,22(L0:0,0,100,22("a":0,12,5,10 A3:5,0,10,20(L0:5,0,10,20("aa":5,0,10,10 "a":5,10,5,10))))`},
		{`<div>a<a><p>a</p><p></p></a></div>`, `p{height:13px;padding-top:1px}`,
			`B1:0,0,100,28(L0:0,0,100,28("a":0,1,5,10 A3:5,0,5,28(B4:5,0,5,14(L0:5,1,5,10("a":5,1,5,10)) B6:5,14,5,14)))`},
		{`<div>a<a><b>a</b></a></div>`, `b{float:left}`,
			`B1:0,0,100,12(L0:0,0,100,12("a":0,2,5,10 A3:5,0,5,10(B4:5,0,5,10(L0:5,0,5,10("a":5,0,5,10)))))`},
		{`<div>a<a><h>a</h></a></div>`, ``,
			`B1:0,0,100,12(L0:0,0,100,12("a":0,2,5,10 A3:5,0,5,10(B4:5,0,5,10(L0:5,0,5,10("a":5,0,5,10)))))`},
		{`<div>a<a>a</a></div>`, `a{height:5px;vertical-align:super}`,
			`B1:0,0,100,13+21(L0:0,0,100,13+21("a":0,3+21,5,10 A3:5,0,5,5(L0:5,0,5,10("a":5,0,5,10))))`},
		{`<div>a<b>a<a></a></b></div>`, `b{vertical-align:3px}a{width:2px;height:5px;vertical-align:4px}`,
			`B1:0,0,100,14(L0:0,0,100,14("a":0,4,5,10 I3:5,1,7,10("a":5,1,5,10 A5:10,0,2,5)))`},
		{`<div>a<a></a></div>`, `div{height:40px}a{width:50%;height:25%;margin:0 10%}`,
			`B1:0,0,100,40(L0:0,0,100,12("a":0,2,5,10 A3:15,0,50,10))`},
		{`<div>a<a></a><a></a>a</div>`, `div{width:12px}a{width:6px;height:10px}`,
			`B1:0,0,12,24(L0:0,0,12,24("a":0,2,5,10 A3:5,0,6,10 A4:0,12,6,10 "a":6,14,5,10))`},
	})
}

// P121: where there is too much for lines, there are none; what is aside lies there all the same.
func TestTooMuchForLines(t *testing.T) {
	const none = `B1:0,0,100,0(L0:0,0,100,0)`
	for _, c := range []struct{ text, rules, want string }{
		{strings.Repeat(`<b>a</b>`, 67), ``, none},
		{strings.Repeat(`a<a></a>`, 100) + `<br>`, ``, none},
		{`a`, `div{line-height:1000000}`, none},
		{`a`, `div{text-indent:-300000px;line-height:999999}`, none},
		{`a<i></i>` + strings.Repeat(`<b>a</b>`, 67), `i{float:left;width:3px;height:3px}`, `B1:0,0,100,3(L0:0,0,100,0(B3:0,0,3,3))`},
	} {
		holdPages(t, []pageOf{{`<div>` + c.text + `</div>`, c.rules, c.want}})
	}
	// One item less is not too much.
	if f := Lay(made(t, `<div>`+strings.Repeat(`<b>a</b>`, 66)+`<b></b></div>`, ``), 100*api.Unit, 0); f.Rect.H == 0 {
		t.Error(shown(f))
	}
}

// P121: texts of more than MaxText bytes in all are too much for lines.
func TestTooLongForLines(t *testing.T) {
	for more, high := range []int{20 * api.Unit, 0} {
		d := tree.New()
		root, _ := d.Element("div")
		d.Put(0, root, 0)
		for n, size := range []int{api.MaxText / 2, api.MaxText/2 + more} {
			id, _ := d.Text(strings.Repeat("a", size-1) + "\n")
			d.Put(root, id, n)
		}
		if f := Lay(boxOf(t, d, "div{line-height:10px;white-space:pre}"), 100*api.Unit, 0); f.Rect.H != high {
			t.Error(more, f.Rect)
		}
	}
}
