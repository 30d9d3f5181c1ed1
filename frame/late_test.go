package frame

import "testing"

// P124: where absolute and fixed boxes would stand: where the next thing would, in the room.
func TestLateAt(t *testing.T) {
	holdPages(t, []pageOf{
		{`<div><p></p><b></b><i></i></div>`, `p{height:5px;margin-bottom:7px}b{position:absolute;width:1px;height:2px}i{position:fixed;width:1px;height:2px}`,
			`B1:0,0,100,12(B2:0,0,100,5 B3:0,12,1,2 B4:0,12,1,2)`},
		{`<div><p><b></b></p></div>`, `p{margin:3px 4px;padding-left:1px}b{position:absolute;width:1px;height:2px}`,
			`B1:0,0,100,3(B2:4,3,92,0(B3:5,3,1,2))`},
		{`<div><p>a<b></b></p></div>`, `p{margin:3px 4px;padding-left:1px}b{position:absolute;width:1px;height:2px;margin:1px}`,
			`B1:0,0,100,16(B2:4,3,92,10(L0:5,3,91,10(B4:6,4,1,2 "a":5,3,5,10)))`},
		{`<div><f><b></b><i>a</i></f></div>`, `f{padding:3px;height:20px}b{position:absolute;width:2px;height:2px}`,
			`B1:0,0,100,26(F2:0,0,100,26(B3:3,3,2,2 B4:3,3,5,20(L0:3,3,5,10("a":3,3,5,10))))`},
		{`<div><p>a<a><b></b></a></p></div>`, `p{margin:3px}a{width:9px;height:9px;padding:1px}b{position:absolute;width:2px;height:2px}`,
			`B1:0,0,100,19(B2:3,3,94,13(L0:3,3,94,13("a":3,6,5,10 A4:8,3,11,11(B5:9,4,2,2))))`},
	})
}

// P124: what they lie in, by their sides, margins and sizes.
func TestLateSolve(t *testing.T) {
	for _, c := range [][2]string{
		{``, `B1:0,0,100,36(B2:0,0,26,36(B3:3,3,24,20(L0:3,3,24,20("aa":3,3,10,10 "aaa":3,13,15,10))))`},
		{`right:3px;bottom:4px`, `B1:0,0,100,36(B2:0,0,26,36(B3:1,11,21,20(L0:1,11,21,20("aa":1,11,10,10 "aaa":1,21,15,10))))`},
		{`right:8px;bottom:4px;border:1px;margin:1px`, `B1:0,0,100,36(B2:0,0,26,36(B3:-1,8,17,22(L0:0,9,15,20("aa":0,9,10,10 "aaa":0,19,15,10))))`},
		{`left:3px;right:4px;top:5px;bottom:6px;margin:1px`, `B1:0,0,100,36(B2:0,0,26,36(B3:5,7,15,21(L0:5,7,15,20("aa":5,7,10,10 "aaa":5,17,15,10))))`},
		{`left:25%;top:50%;width:50%;height:50%`, `B1:0,0,100,36(B2:0,0,26,36(B3:7,18,12,17(L0:7,18,12,20("aa":7,18,10,10 "aaa":7,28,15,10))))`},
		{`left:0;top:0;width:10px;padding:1px;margin:10%;box-sizing:border-box`, `B1:0,0,100,36(B2:0,0,26,36(B3:3+25,3+25,10,22(L0:4+25,4+25,8,20("aa":4+25,4+25,10,10 "aaa":4+25,14+25,15,10))))`},
	} {
		holdPages(t, []pageOf{{`<div><p><b>aa aaa</b></p></div>`, `p{position:relative;width:20px;height:30px;border:1px;padding:2px}b{position:absolute;` + c[0] + `}`, c[1]}})
	}
	holdPages(t, []pageOf{
		{`<div><p></p></div>`, `p{position:fixed;inset:10px;margin:1px}`,
			`B1:0,0,100,0(B2:11,11,78,58)`},
		{`<div><p><b></b></p></div>`, `p{position:relative;width:20px;height:30px}b{position:absolute;inset:0;width:10px;height:10px;margin:auto}`,
			`B1:0,0,100,30(B2:0,0,20,30(B3:5,10,10,10))`},
		{`<div><p><b></b></p></div>`, `p{position:relative;width:20px;height:30px}b{position:absolute;inset:10%;width:50%;height:50%;margin-top:auto;margin-right:auto}`,
			`B1:0,0,100,30(B2:0,0,20,30(B3:2,12,10,15))`},
		{`<div><p></p></div>`, `p{position:absolute;height:5px;min-height:10px;top:0;bottom:0;margin:auto 0;max-width:20px;left:0;right:0;margin-left:auto;margin-right:auto}`,
			`B1:0,0,100,0(B2:40,35,20,10)`},
		// The height that it fits is bounded by nothing; then its kids have its height.
		{`<div><p><b></b></p></div>`, `p{position:absolute;left:5px}b{display:block;height:7px;margin:2px}`,
			`B1:0,0,100,0(B2:5,0,4,11(B3:7,2,0,7))`},
		{`<div><p><b></b></p></div>`, `p{position:absolute;left:5px;max-height:4px}b{display:block;height:100%;min-height:7px;margin:2px}`,
			`B1:0,0,100,0(B2:5,0,4,4(B3:7,2,0,7))`},
		{`<div><p><b></b></p></div>`, `p{position:absolute;left:5px;bottom:0;max-height:4px}b{display:block;height:100%;min-height:7px}`,
			`B1:0,0,100,0(B2:5,76,0,4(B3:5,76,0,7))`},
		{`<div><p><b></b></p></div>`, `p{position:absolute;top:10px;bottom:20px}b{display:block;height:50%;width:9px}`,
			`B1:0,0,100,0(B2:0,10,9,50(B3:0,10,9,25))`},
		{`<div><f><b></b><i></i></f></div>`, `f{position:absolute;width:50px}b{flex:1}i{width:10px;height:6px}`,
			`B1:0,0,100,0(F2:0,0,50,6(B3:0,0,40,6 B4:40,0,10,6))`},
	})
}

// P124: each side has its own edges and margins.
func TestLateSides(t *testing.T) {
	for _, c := range [][2]string{
		{`left:1px;top:2px;width:3px;height:4px`, `B3:13,5,13,10`},
		{`right:1px;bottom:2px;width:3px;height:4px`, `B3:6,13,13,10`},
		{`inset:0;width:1px;height:1px;margin-left:auto;margin-top:auto`, `B3:9,18,11,7`},
		{`inset:0;width:1px;height:1px;margin-right:auto;margin-bottom:auto`, `B3:12,3,11,7`},
		{`inset:0`, `B3:12,3,10,22`},
	} {
		holdPages(t, []pageOf{{`<div><p><b></b></p></div>`, `p{position:relative;width:20px;height:30px;border-width:1px 2px 3px 4px}b{position:absolute;margin:2px 4px 6px 8px;border-width:1px 3px 5px 7px;` + c[0] + `}`,
			`B1:0,0,100,34(B2:0,0,26,34(` + c[1] + `))`}})
	}
	for _, c := range [][2]string{
		{`left:30px`, `B2:38,0,58,20(L0:45,0,48,20("aaa aaa":45,0,32+32,10 "aaa aaa":45,10,32+32,10))`},
		{`right:20px`, `B2:8,0,68,20(L0:15,0,58,20("aaa aaa aaa":15,0,50,10 "aaa":15,10,15,10))`},
		{`right:5px`, `B2:13+32,0,77+32,10(L0:20+32,0,67+32,10("aaa aaa aaa aaa":20+32,0,67+32,10))`},
	} {
		holdPages(t, []pageOf{{`<div><p>aaa aaa aaa aaa</p></div>`, `p{position:absolute;margin:0 4px 0 8px;border-width:0 3px 0 7px;` + c[0] + `}`, `B1:0,0,100,0(` + c[1] + `)`}})
	}
}

// P124: the containing box is that of the nearest box around that has a place of its own, and a frame; of fixed ones it is the page.
func TestLateContaining(t *testing.T) {
	holdPages(t, []pageOf{
		{`<div><p><b>a<i></i></b></p></div>`, `b{position:relative;padding:2px;border:1px}i{position:absolute;left:100%;top:100%;width:1px;height:1px}`,
			`B1:0,0,100,10(B2:0,0,100,10(L0:0,0,100,10(B5:10,12,1,1 I3:0,-3,11,16("a":3,0,5,10))))`},
		// Of a part of several lines it is the first frame.
		{`<div><p>aaa <b>aaa aaa<i></i></b></p></div>`, `p{width:30px}b{position:relative;padding:2px;border:1px}i{position:absolute;left:100%;top:0;width:1px;height:1px}`,
			`B1:0,0,100,30(B2:0,0,30,30(L0:0,0,30,30(B6:17,8,1,1 "aaa":0,0,15,10 I4:0,7,18,16("aaa":3,10,15,10) I4:0,17,18,16("aaa":0,20,15,10))))`},
		// There is no line, so the part of it has no frame.
		{`<div><p><b><i></i></b></p></div>`, `p{position:relative;margin:5px;height:1px}b{position:relative}i{position:absolute;left:0;top:0;width:1px;height:1px}`,
			`B1:0,0,100,11(B2:5,5,90,1(L0:5,5,90,0(B4:5,5,1,1)))`},
		{`<div><p><b><i></i></b></p></div>`, `p{margin:5px}b{position:absolute;left:3px;top:3px;padding:1px}i{position:absolute;left:1px;width:3px;height:3px}`,
			`B1:0,0,100,5(B2:5,5,90,0(B3:3,3,2,2(B4:4,4,3,3)))`},
		{`<div><p><b><i></i></b></p></div>`, `p{margin:5px}b{position:absolute;left:3px;top:3px;padding:1px;border:2px}i{position:fixed;right:1px;bottom:1px;width:3px;height:3px}`,
			`B1:0,0,100,5(B2:5,5,90,0(B3:3,3,6,6(B4:96,76,3,3)))`},
		{`<div><p><b></b></p></div>`, `p{height:10px;overflow:hidden}b{position:absolute;right:0;bottom:0;width:3px;height:3px}`,
			`B1:0,0,100,10(B2:0,0,100,10(B3:97,77,3,3))`},
		// It is where it is ahead of all moves, and moved with what it lies in.
		{`<div><p><b></b></p></div>`, `p{height:10px;position:relative;left:7px}b{position:absolute;right:0;bottom:0;width:3px;height:3px}`,
			`B1:0,0,100,10(B2:7,0,100,10(B3:104,7,3,3))`},
	})
}

// P125: what is relative is moved with all that lies in it, and nothing else is.
func TestRelative(t *testing.T) {
	holdPages(t, []pageOf{
		{`<div><p></p><i></i></div>`, `p{position:relative;left:5px;top:3px;height:2px}i{display:block;height:1px}`,
			`B1:0,0,100,3(B2:5,3,100,2 B3:0,2,100,1)`},
		{`<div><p><b>a</b></p></div>`, `p{position:relative;left:3px;top:4px}b{position:relative;left:10%;right:5px;top:10%;bottom:5px}`,
			`B1:0,0,100,10(B2:3,4,100,10(L0:3,4,100,10(I3:13,-1,5,10("a":13,-1,5,10))))`},
		{`<div><p><b>a</b></p></div>`, `div{height:50px}p{position:relative;right:3px;bottom:10%}b{position:relative;bottom:5px}`,
			`B1:0,0,100,50(B2:-3,-5,100,10(L0:-3,-5,100,10(I3:-3,-10,5,10("a":-3,-10,5,10))))`},
		{`<div><p><b>aaa aaa</b></p></div>`, `p{width:20px}b{position:relative;left:1px;top:2px}`,
			`B1:0,0,100,20(B2:0,0,20,20(L0:0,0,20,20(I3:1,2,15,10("aaa":1,2,15,10) I3:1,12,15,10("aaa":1,12,15,10))))`},
		{`<div><p><b>a<i></i></b></p></div>`, `b{position:relative;left:3px;top:4px}i{float:left;width:5px;height:5px}`,
			`B1:0,0,100,10(B2:0,0,100,10(L0:0,0,100,10(B5:0,0,5,5 I3:8,4,5,10("a":8,4,5,10))))`},
		{`<div><p><i></i></p></div>`, `p{position:relative;left:3px;top:4px}i{position:fixed;left:0;top:0;width:5px;height:5px}`,
			`B1:0,0,100,0(B2:3,4,100,0(B3:3,4,5,5))`},
		{`<div>a</div>`, `div{position:relative;left:50%;top:50%}`,
			`B1:50,40,100,10(L0:50,40,100,10("a":50,40,5,10))`},
		{`<div><p>a</p></div>`, `p{left:50%;top:50%}`,
			`B1:0,0,100,10(B2:0,0,100,10(L0:0,0,100,10("a":0,0,5,10)))`},
		{`<div><p>a</p><b></b></div>`, `p{position:relative;left:auto;right:-5px}b{float:left;position:relative;left:25%;width:10px;height:10px;top:3px}`,
			`B1:0,0,100,20(B2:5,0,100,10(L0:5,0,100,10("a":5,0,5,10)) B4:25,13,10,10)`},
		{`<div>a<a></a></div>`, `div{height:20px}a{position:relative;left:10%;top:10%;width:5px;height:5px}`,
			`B1:0,0,100,20(L0:0,0,100,10("a":0,0,5,10 A3:15,5,5,5))`},
	})
}
