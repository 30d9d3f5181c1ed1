package frame

import "testing"

// P122: lines are as wide as the widest of them, at the most and at the least; the room is between.
func TestReachOfLines(t *testing.T) {
	holdPages(t, []pageOf{
		{`<div><p>aa aaa a</p></div>`, `p{float:left}`,
			`B1:0,0,100,10(B2:0,0,35,10(L0:0,0,35,10("aa aaa a":0,0,35,10)))`},
		{`<div><p>aa aaa a</p></div>`, `div{width:20px}p{float:left}`,
			`B1:0,0,20,30(B2:0,0,20,30(L0:0,0,20,30("aa":0,0,10,10 "aaa":0,10,15,10 "a":0,20,5,10)))`},
		{`<div><p>aa aaa a</p></div>`, `div{width:10px}p{float:left}`,
			`B1:0,0,10,30(B2:0,0,15,30(L0:0,0,15,30("aa":0,0,10,10 "aaa":0,10,15,10 "a":0,20,5,10)))`},
		{`<div><p>aa aaa a</p></div>`, `div{width:20px}p{float:left;padding:0 1px;border:1px;margin:0 2px}`,
			`B1:0,0,20,32(B2:2,0,19,32(L0:4,1,15,30("aa":4,1,10,10 "aaa":4,11,15,10 "a":4,21,5,10)))`},
		{`<div><p>aa aaa a</p></div>`, `p{float:left;text-indent:9px;text-align:right}`,
			`B1:0,0,100,20(B2:0,0,35,20(L0:0,0,35,20("aa":25,0,10,10 "aaa a":12+32,10,22+32,10)))`},
		{`<div><p>aa<br>a</p></div>`, `p{float:left}`,
			`B1:0,0,100,20(B2:0,0,10,20(L0:0,0,10,20("aa":0,0,10,10 "a":0,10,5,10)))`},
		{`<div><p>a<b>a</b></p></div>`, `p{float:left}b{padding:1px;margin:0 10%;border-right-width:2px}`,
			`B1:0,0,100,10(B2:0,0,14,10(L0:0,0,14,10("a":0,0,5,10 I4:6+25,-1,9,12("a":7+25,0,5,10))))`},
		// The most may be less than the least: it is taken where it fits, else the least.
		{`<div><p>aaa <b>a</b></p></div>`, `p{float:left}b{margin-left:-20px}`,
			`B1:0,0,100,10(B2:0,0,2+32,10(L0:0,0,2+32,10("aaa ":0,0,17+32,10 I4:-3+32,0,5,10("a":-3+32,0,5,10))))`},
		{`<div><p>aaa <b>a</b></p></div>`, `div{width:2px}p{float:left}b{margin-left:-20px}`,
			`B1:0,0,2,10(B2:0,0,15,10(L0:0,0,15,10("aaa ":0,0,17+32,10 I4:-3+32,0,5,10("a":-3+32,0,5,10))))`},
	})
}

// P122: atoms and floats in lines count with all about.
func TestReachInLines(t *testing.T) {
	holdPages(t, []pageOf{
		{`<div><p>aa <a></a>a</p></div>`, `div{width:12px}p{float:left}a{width:11px;margin:1px;height:1px}`,
			`B1:0,0,12,30(B2:0,0,13,30(L0:0,0,13,30("aa":0,0,10,10 A4:1,16,11,1 "a":0,20,5,10)))`},
		{`<div><p>aa <a>aa a</a>a</p></div>`, `p{float:left}a{padding:1px}`,
			`B1:0,0,100,12(B2:0,0,37,12(L0:0,0,37,12("aa ":0,1,12+32,10 A4:12+32,0,19+32,12(L0:13+32,1,17+32,10("aa a":13+32,1,17+32,10)) "a":32,1,5,10)))`},
		{`<div><p>aa <a>aa a</a>a</p></div>`, `div{width:11px}p{float:left}a{padding:1px}`,
			`B1:0,0,11,42(B2:0,0,12,42(L0:0,0,12,42("aa":0,0,10,10 A4:0,10,12,22(L0:1,11,10,20("aa":1,11,10,10 "a":1,21,5,10)) "a":0,32,5,10)))`},
		{`<div><p>aa <a>aa a</a>a</p></div>`, `p{float:left}a{padding:10%;width:50%;max-width:6px}`,
			`B1:0,0,100,34+44(B2:0,0,23+32,34+44(L0:0,0,23+32,34+44("aa ":0,12+22,12+32,10 A4:12+32,0,10+44,24+44(L0:14+54,2+22,6,20("aa":14+54,2+22,10,10 "a":14+54,12+22,5,10)) "a":0,24+44,5,10)))`},
		{`<div><p>aa <b></b></p></div>`, `p{float:left}b{float:right;width:20px;height:1px;margin:3px}`,
			`B1:0,0,100,17(B2:0,0,26,17(L0:0,0,26,17(B4:3,3,20,1 "aa":0,7,10,10)))`},
		{`<div><p>aa <i><b></b></i></p></div>`, `p{float:left}b{float:right;width:20px;height:1px;margin:3px}`,
			`B1:0,0,100,17(B2:0,0,26,17(L0:0,0,26,17(B5:3,3,20,1 "aa":0,7,10,10 I4:10,7,0,10)))`},
		{`<div><p>aa <i><b></b></i></p></div>`, `p{float:left}b{position:absolute;width:20px;height:1px;margin:3px}`,
			`B1:0,0,100,10(B2:0,0,10,10(L0:0,0,10,10(B5:3,3,20,1 "aa":0,0,10,10 I4:10,0,0,10)))`},
	})
}

// P122: blocks are as wide as the widest of their kids, with all about, held by bounds that are lengths; parts are nothing.
func TestReachOfBlocks(t *testing.T) {
	holdPages(t, []pageOf{
		{`<div><p><b></b><i></i></p></div>`, `p{float:left}b{display:block;width:20px;padding:1px;height:1px}i{display:block;width:15px;margin:0 4px;height:1px}`,
			`B1:0,0,100,4(B2:0,0,23,4(B3:0,0,22,3 B4:4,3,15,1))`},
		{`<div><p><b></b><i></i></p></div>`, `p{float:left}b{display:block;width:20px;padding:1px;box-sizing:border-box;height:1px}i{display:block;width:50%;min-width:12px;height:1px}`,
			`B1:0,0,100,3(B2:0,0,20,3(B3:0,0,20,2 B4:0,2,12,1))`},
		{`<div><p><b>aa aaa</b><i>aaaa a</i></p></div>`, `div{width:10px}p{float:left}b,i{display:block}`,
			`B1:0,0,10,40(B2:0,0,20,40(B3:0,0,20,20(L0:0,0,20,20("aa":0,0,10,10 "aaa":0,10,15,10)) B5:0,20,20,20(L0:0,20,20,20("aaaa":0,20,20,10 "a":0,30,5,10))))`},
		{`<div><p><b>aaaa</b></p></div>`, `p{float:left}b{display:block;max-width:12px}`,
			`B1:0,0,100,10(B2:0,0,12,10(B3:0,0,12,10(L0:0,0,12,10("aaaa":0,0,20,10))))`},
		{`<div><p><b>aaaa</b></p></div>`, `p{float:left}b{display:block;max-width:12%}`,
			`B1:0,0,100,10(B2:0,0,20,10(B3:0,0,2+25,10(L0:0,0,2+25,10("aaaa":0,0,20,10))))`},
		{`<div><p><b>a</b></p></div>`, `p{float:left}b{display:block;min-width:12px;padding:1px;box-sizing:border-box}`,
			`B1:0,0,100,12(B2:0,0,12,12(B3:0,0,12,12(L0:1,1,10,10("a":1,1,5,10))))`},
		{`<div><p><b>a</b></p></div>`, `p{float:left;min-width:50%}b{display:block;min-width:12%}`,
			`B1:0,0,100,10(B2:0,0,50,10(B3:0,0,50,10(L0:0,0,50,10("a":0,0,5,10))))`},
		{`<div><p><b></b><i></i></p></div>`, `p{float:left}b{float:left;width:20px;height:1px}i{position:absolute;width:30px;height:1px}`,
			`B1:0,0,100,1(B2:0,0,20,1(B3:0,0,20,1 B4:0,0,30,1))`},
		{`<div><p><b></b></p></div>`, `p{float:left}b{display:block;width:20px;height:1px;margin:0 -15px}`,
			`B1:0,0,100,1(B2:0,0,0,1(B3:-15,0,20,1))`},
	})
}

// P122: rows are as wide as their items together, columns as the widest of them, tables as their columns without a room.
func TestReachOfItems(t *testing.T) {
	holdPages(t, []pageOf{
		{`<div><f><b>aa a</b><i>aaa</i></f></div>`, `f{float:left;gap:3px}b{margin:1px}`,
			`B1:0,0,100,12(F2:0,0,37+32,12(B3:1,1,17+32,10(L0:1,1,17+32,10("aa a":1,1,17+32,10)) B5:22+32,0,15,12(L0:22+32,0,15,10("aaa":22+32,0,15,10))))`},
		{`<div><f><b>aa a</b><i>aaa</i></f></div>`, `div{width:20px}f{float:left;gap:3px}b{margin:1px}`,
			`B1:0,0,20,22(F2:0,0,30,22(B3:1,1,13+29,20(L0:1,1,13+29,20("aa":1,1,10,10 "a":1,11,5,10)) B5:18+29,0,11+35,22(L0:18+29,0,11+35,10("aaa":18+29,0,15,10))))`},
		{`<div><f><b>aa a</b><i>aaa</i></f></div>`, `f{float:left;gap:3px;flex-direction:column}b{margin:1px}`,
			`B1:0,0,100,25(F2:0,0,19+32,25(B3:1,1,17+32,10(L0:1,1,17+32,10("aa a":1,1,17+32,10)) B5:0,15,19+32,10(L0:0,15,19+32,10("aaa":0,15,15,10))))`},
		{`<div><f><b>aa a</b><i>aaa</i></f></div>`, `f{float:left;gap:10%}b{position:absolute}`,
			`B1:0,0,100,10(F2:0,0,15,10(B3:0,0,17+32,10(L0:0,0,17+32,10("aa a":0,0,17+32,10)) B5:0,0,15,10(L0:0,0,15,10("aaa":0,0,15,10))))`},
		{`<div><g><b>aa a</b><i>aaa</i></g></div>`, `g{float:left;grid-template-columns:auto 1fr 7px;gap:3px}b{margin:1px}`,
			`B1:0,0,100,12(G2:0,0,47+32,12(B3:1,1,17+32,10(L0:1,1,17+32,10("aa a":1,1,17+32,10)) B5:22+32,0,15,12(L0:22+32,0,15,10("aaa":22+32,0,15,10))))`},
		{`<div><g><b>aa a</b><i>aaa</i></g></div>`, `div{width:20px}g{float:left;grid-template-columns:auto 1fr 7px;gap:3px}b{margin:1px}`,
			`B1:0,0,20,12(G2:0,0,40,12(B3:1,1,17+32,10(L0:1,1,17+32,10("aa a":1,1,17+32,10)) B5:22+32,0,7+32,12(L0:22+32,0,7+32,10("aaa":22+32,0,15,10))))`},
		{`<div><g><b>aa a</b><i>aaa</i></g></div>`, `g{float:left;grid-template-columns:5px 20% 7px;gap:10%}i{grid-column-span:2}`,
			`B1:0,0,100,20(G2:0,0,20,20(B3:0,0,5,20(L0:0,0,5,20("aa":0,0,10,10 "a":0,10,5,10)) B5:15,0,21,20(L0:15,0,21,10("aaa":15,0,15,10))))`},
	})
}

// P123: a box of its own is as wide as it tells, or as it fits, bounded, and has a flow of its own.
func TestOwn(t *testing.T) {
	holdPages(t, []pageOf{
		{`<div><p>a</p></div>`, `p{float:left;width:50%;max-width:40%;min-width:30px}`,
			`B1:0,0,100,10(B2:0,0,40,10(L0:0,0,40,10("a":0,0,5,10)))`},
		{`<div><p>a</p></div>`, `p{float:left;width:50%;padding:0 10%;box-sizing:border-box}`,
			`B1:0,0,100,10(B2:0,0,50,10(L0:10,0,30,10("a":10,0,5,10)))`},
		{`<div><p>a</p></div>`, `p{float:left;max-width:3px;min-width:2px}`,
			`B1:0,0,100,10(B2:0,0,3,10(L0:0,0,3,10("a":0,0,5,10)))`},
		{`<div><p>a</p></div>`, `p{float:left;min-width:20px;height:50%;min-height:3px}`,
			`B1:0,0,100,10(B2:0,0,20,10(L0:0,0,20,10("a":0,0,5,10)))`},
		{`<div><p>a<b></b></p></div>`, `div{height:40px}p{float:left;height:50%}b{display:block;height:50%}`,
			`B1:0,0,100,40(B2:0,0,5,20(L0:0,0,5,10("a":0,0,5,10) B4:0,10,5,10))`},
		{`<div><p><b></b><i></i></p></div>`, `p{float:left}b{float:left;width:7px;height:9px}i{display:block;height:3px;margin:1px}`,
			`B1:0,0,100,9(B2:0,0,7,9(B3:0,0,7,9 B4:1,1,5,3))`},
		{`<div><a><p></p></a></div>`, `a{padding:1px}p{width:5px;height:5px;margin:2px}`,
			`B1:0,0,100,13(L0:0,0,100,13(A2:0,0,11,11(B3:3,3,5,5)))`},
	})
}
