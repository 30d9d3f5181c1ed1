package frame

import "testing"

// P120: margins that meet are one: of what stands one below the other, of a block and its first and last kid, and through blocks that have nothing; edges and heights are between them.
func TestMarginsMeet(t *testing.T) {
	holdPages(t, []pageOf{
		{`<div><p></p><p></p></div>`, `p{height:10px;margin:20px 0}p+p{margin:8px 0}`,
			`B1:0,0,100,68(B2:0,20,100,10 B3:0,50,100,10)`},
		{`<div><p></p><p></p></div>`, `p{height:10px;margin:20px 0}p+p{margin:-5px 0}`,
			`B1:0,0,100,50(B2:0,20,100,10 B3:0,45,100,10)`},
		{`<div><p></p><p></p></div>`, `p{height:10px;margin:-20px 0}p+p{margin:-5px 0}`,
			`B1:0,0,100,0(B2:0,-20,100,10 B3:0,-30,100,10)`},
		{`<div><p></p><p></p><p></p></div>`, `p{height:10px;margin:6px 0}p+p{height:0;margin:9px 0 -2px}p+p+p{height:1px;margin:0}`,
			`B1:0,0,100,24(B2:0,6,100,10 B3:0,25,100,0 B4:0,23,100,1)`},
		{`<div><p></p></div>`, `p{height:10px;margin:auto}`,
			`B1:0,0,100,10(B2:0,0,100,10)`},
	})
	for _, c := range [][2]string{
		{``, `B1:0,0,100,19(B2:0,7,100,4(B3:0,7,100,4) B4:0,18,100,1)`},
		{`padding:1px 0`, `B1:0,0,100,27(B2:0,3,100,20(B3:0,11,100,4) B4:0,26,100,1)`},
		{`border-top-width:1px`, `B1:0,0,100,23(B2:0,3,100,12(B3:0,11,100,4) B4:0,22,100,1)`},
		{`border-bottom-width:1px`, `B1:0,0,100,23(B2:0,7,100,12(B3:0,7,100,4) B4:0,22,100,1)`},
		{`height:4px`, `B1:0,0,100,15(B2:0,7,100,4(B3:0,7,100,4) B4:0,14,100,1)`},
		{`height:0`, `B1:0,0,100,11(B2:0,7,100,0(B3:0,7,100,4) B4:0,10,100,1)`},
		{`min-height:4px`, `B1:0,0,100,19(B2:0,7,100,4(B3:0,7,100,4) B4:0,18,100,1)`},
		{`min-height:5px`, `B1:0,0,100,16(B2:0,7,100,5(B3:0,7,100,4) B4:0,15,100,1)`},
		{`max-height:3px`, `B1:0,0,100,14(B2:0,7,100,3(B3:0,7,100,4) B4:0,13,100,1)`},
		{`overflow:hidden`, `B1:0,0,100,25(B2:0,3,100,18(B3:0,10,100,4) B4:0,24,100,1)`},
	} {
		holdPages(t, []pageOf{{`<div><p><b></b></p><i></i></div>`, `b,i{display:block}b{height:4px;margin:7px 0}i{height:1px}p{margin:3px 0;` + c[0] + `}`, c[1]}})
	}
}

// P120: the root's box is a strand, and lies in the page as a block, whatever it says of its place.
func TestRoot(t *testing.T) {
	holdPages(t, []pageOf{
		{`<div></div>`, ``, `B1:0,0,100,0`},
		{`<div><p>a</p></div>`, `div{margin:2px}p{margin:7px 0}`,
			`B1:2,2,96,24(B2:2,9,96,10(L0:2,9,96,10("a":2,9,5,10)))`},
		{`<div><p></p></div>`, `div{margin:2px 3px 4px 5px;border:1px;padding:6px 7px 8px 9px}p{margin:10px 0;height:1px}`,
			`B1:5,2,92,37(B2:15,19,74,1)`},
		{`<div><p></p></div>`, `div{float:right;width:10px;margin:3px}p{height:5px}`,
			`B1:3,3,10,5(B2:3,3,10,5)`},
		{`<div><p></p></div>`, `div{position:absolute;top:5px;width:10px;border:2px}p{position:absolute;top:50%;left:50%;height:5px;width:1px}`,
			`B1:0,0,14,4(B2:7,2,1,5)`},
		{`<div><p></p></div>`, `div{position:fixed;top:5px;left:5px}p{height:5px}`,
			`B1:0,0,100,5(B2:0,0,100,5)`},
		{`<div></div>`, `div{height:50%;width:25%;padding-top:10%}`,
			`B1:0,0,25,50`},
		{`<b>a</b>`, ``, `B1:0,0,100,10(L0:0,0,100,10("a":0,0,5,10))`},
	})
}

// P120: a block that nothing was set down in is open; it is set down at its end for its height, its min-height or its edges below, or lies where the next thing would.
func TestOpen(t *testing.T) {
	holdPages(t, []pageOf{
		{`<div><p><b></b></p></div>`, `p{margin:5px 0 0}b{display:block;margin:12px 0 1px}`,
			`B1:0,0,100,12(B2:0,12,100,0(B3:0,12,100,0))`},
		{`<div><p><b>a</b></p></div>`, `p{margin:5px 0 0}b{display:block;margin:12px 0 1px}`,
			`B1:0,0,100,23(B2:0,12,100,10(B3:0,12,100,10(L0:0,12,100,10("a":0,12,5,10))))`},
		{`<div><p><b></b><i></i></p></div>`, `p{margin-top:3px}b{display:block;height:5px;margin-bottom:-20px}i{display:block;height:2px;margin-bottom:6px}`,
			`B1:0,0,100,3(B2:0,3,100,0(B3:0,3,100,5 B4:0,-12,100,2))`},
	})
	for _, c := range [][2]string{
		{``, `B1:0,0,100,9(B2:0,5,100,0 B3:0,8,100,1)`},
		{`height:0`, `B1:0,0,100,9(B2:0,5,100,0 B3:0,8,100,1)`},
		{`height:1px;max-height:0`, `B1:0,0,100,9(B2:0,5,100,0 B3:0,8,100,1)`},
		{`height:50%;min-height:50%`, `B1:0,0,100,9(B2:0,5,100,0 B3:0,8,100,1)`},
		{`height:0;min-height:2px`, `B1:0,0,100,16(B2:0,5,100,2 B3:0,15,100,1)`},
		{`height:2px`, `B1:0,0,100,16(B2:0,5,100,2 B3:0,15,100,1)`},
		{`min-height:2px`, `B1:0,0,100,16(B2:0,5,100,2 B3:0,15,100,1)`},
		{`padding-bottom:2px`, `B1:0,0,100,16(B2:0,5,100,2 B3:0,15,100,1)`},
		{`border-top-width:2px`, `B1:0,0,100,16(B2:0,5,100,2 B3:0,15,100,1)`},
		{`min-height:2px;padding-left:1px;box-sizing:border-box`, `B1:0,0,100,16(B2:0,5,100,2 B3:0,15,100,1)`},
	} {
		holdPages(t, []pageOf{{`<div><p></p><i></i></div>`, `p{margin:5px 0 8px;` + c[0] + `}i{display:block;height:1px}`, c[1]}})
	}
}

// P120, 1: widths, margins and edges in the room.
func TestWidths(t *testing.T) {
	for _, c := range [][2]string{
		{`width:40px;margin:0 auto`, `B1:0,0,100,1(B2:30,0,40,1)`},
		{`width:40px;margin:0 5px 0 auto`, `B1:0,0,100,1(B2:55,0,40,1)`},
		{`max-width:30px;padding:0 5px;margin-left:auto`, `B1:0,0,100,1(B2:60,0,40,1)`},
		{`min-width:130px`, `B1:0,0,100,1(B2:0,0,130,1)`},
		{`width:50%;padding:0 10%;box-sizing:border-box`, `B1:0,0,100,1(B2:0,0,50,1)`},
		{`width:50%;padding:0 10%`, `B1:0,0,100,1(B2:0,0,70,1)`},
		{`width:10px;padding:0 7px;border-width:0 1px;box-sizing:border-box`, `B1:0,0,100,1(B2:0,0,16,1)`},
		{`max-width:30px;min-width:20px;padding:0 7px;box-sizing:border-box`, `B1:0,0,100,1(B2:0,0,30,1)`},
	} {
		holdPages(t, []pageOf{{`<div><p></p></div>`, `p{height:1px;` + c[0] + `}`, c[1]}})
	}
	// Parts are rounded down, below 0 too: 213.1 and -213.1 of 2131.
	holdPages(t, []pageOf{{`<div><p></p></div>`, `div{width:33.3%}p{margin:10% -10%;height:1px}`, `B1:0,0,33+19,7+42(B2:-4+42,3+21,39+63,1)`}})
}

// P120: heights, and what parts of them are taken of.
func TestHeights(t *testing.T) {
	holdPages(t, []pageOf{
		{`<div><p></p></div>`, `div{height:40px}p{height:50%}`, `B1:0,0,100,40(B2:0,0,100,20)`},
		{`<div><p></p></div>`, `p{height:50%}`, `B1:0,0,100,0(B2:0,0,100,0)`},
		{`<div><p></p></div>`, `div{height:40px;padding:5px;box-sizing:border-box}p{height:50%;min-height:60%}`, `B1:0,0,100,40(B2:5,5,90,18)`},
		{`<div><p></p></div>`, `div{height:40px}p{max-height:25%;height:30px}`, `B1:0,0,100,40(B2:0,0,100,10)`},
		{`<div><p></p></div>`, `div{height:40px}p{max-height:25%;height:30px;min-height:12px}`, `B1:0,0,100,40(B2:0,0,100,12)`},
		{`<div><p></p></div>`, `p{height:10px;min-height:50%;max-height:50%}`, `B1:0,0,100,10(B2:0,0,100,10)`},
		{`<div><p></p></div>`, `div{height:40px;max-height:20px}p{height:50%}`, `B1:0,0,100,20(B2:0,0,100,10)`},
		{`<div><p><b></b></p></div>`, `div{height:40px}b{display:block;height:50%}`, `B1:0,0,100,40(B2:0,0,100,0(B3:0,0,100,0))`},
		{`<div><p></p></div>`, `p{height:10px;padding:1px;box-sizing:border-box;max-height:9px;min-height:8px}`, `B1:0,0,100,9(B2:0,0,100,9)`},
		{`<div><p></p></div>`, `p{height:1px;padding:2px;box-sizing:border-box}`, `B1:0,0,100,4(B2:0,0,100,4)`},
	})
}

// P120: floats lie in the room, from where the next thing would stand, with their margins; a strand is as high as its floats.
func TestFloats(t *testing.T) {
	holdPages(t, []pageOf{
		{`<div><b></b><p></p></div>`, `b{float:left;width:40px;height:20px}p{height:5px}`,
			`B1:0,0,100,20(B2:0,0,40,20 B3:0,0,100,5)`},
		{`<div><b></b><i></i></div>`, `b{float:left;width:40px;height:20px;margin:1px 2px 3px 4px}i{float:right;width:54px;height:6px}`,
			`B1:0,0,100,24(B2:4,1,40,20 B3:46,0,54,6)`},
		{`<div><b></b><i></i></div>`, `b{float:left;width:40px;height:20px;margin:1px 2px 3px 4px}i{float:right;width:55px;height:6px}`,
			`B1:0,0,100,30(B2:4,1,40,20 B3:45,24,55,6)`},
		{`<div><b></b><i></i></div>`, `b{float:left;width:40px;height:20px}i{float:left;clear:left;width:10px;height:6px}`,
			`B1:0,0,100,26(B2:0,0,40,20 B3:0,20,10,6)`},
		{`<div><b></b><i></i></div>`, `b{float:left;width:40px;height:20px}i{float:left;clear:right;width:10px;height:6px}`,
			`B1:0,0,100,20(B2:0,0,40,20 B3:40,0,10,6)`},
		{`<div><p></p><b></b></div>`, `p{height:5px;margin-bottom:7px}b{float:left;width:40px;height:20px}`,
			`B1:0,0,100,32(B2:0,0,100,5 B3:0,12,40,20)`},
		{`<div><p><b></b></p></div>`, `p{margin-top:7px}b{float:left;width:40px;height:20px}`,
			`B1:0,0,100,27(B2:0,7,100,0(B3:0,7,40,20))`},
		{`<div><p><b></b></p></div>`, `p{margin:-7px 0;padding:0 5px}b{float:right;clear:both;width:40px;height:20px}`,
			`B1:0,0,100,13(B2:0,-7,100,0(B3:55,-7,40,20))`},
		{`<div><p><b></b></p></div>`, `p{overflow:hidden}b{float:left;width:40px;height:20px}`,
			`B1:0,0,100,20(B2:0,0,100,20(B3:0,0,40,20))`},
		{`<div><b></b></div>`, `b{float:left;width:50%;height:50%}`,
			`B1:0,0,100,0(B2:0,0,50,0)`},
		{`<div><b></b></div>`, `div{height:10px}b{float:left;width:50%;height:50%;margin:10%}`,
			`B1:0,0,100,10(B2:10,10,50,5)`},
		{`<div><b></b></div>`, `div{padding:3px}b{float:left;width:5px;height:5px;margin:auto}`,
			`B1:0,0,100,11(B2:3,3,5,5)`},
	})
}

// P120, 2: what clears floats lies below them, and its margin above is gone, if that is not enough.
func TestClear(t *testing.T) {
	holdPages(t, []pageOf{
		{`<div><b></b><p></p></div>`, `b{float:left;width:40px;height:20px}p{clear:left;margin-top:5px;height:5px}`,
			`B1:0,0,100,25(B2:0,0,40,20 B3:0,20,100,5)`},
		{`<div><b></b><p></p></div>`, `b{float:left;width:40px;height:20px}p{clear:both;margin-top:25px;height:5px}`,
			`B1:0,0,100,30(B2:0,0,40,20 B3:0,25,100,5)`},
		{`<div><b></b><p></p></div>`, `b{float:left;width:40px;height:20px}p{clear:right;margin-top:5px;height:5px}`,
			`B1:0,0,100,20(B2:0,0,40,20 B3:0,5,100,5)`},
		{`<div><b></b><p><i></i></p></div>`, `b{float:right;width:40px;height:20px}i{display:block;clear:right;margin-top:5px;height:5px}`,
			`B1:0,0,100,25(B2:60,0,40,20 B3:0,20,100,5(B4:0,20,100,5))`},
		// The margin is there still, if it is enough.
		{`<div><b></b><p><i></i></p></div>`, `b{float:left;width:40px;height:20px}p{clear:left;margin-top:20px}i{display:block;margin-top:25px;height:5px}`,
			`B1:0,0,100,30(B2:0,0,40,20 B3:0,25,100,5(B4:0,25,100,5))`},
		{`<div><b></b><p><i></i></p></div>`, `b{float:left;width:40px;height:20px}p{clear:left;margin-top:19px}i{display:block;margin-top:25px;height:5px}`,
			`B1:0,0,100,50(B2:0,0,40,20 B3:0,45,100,5(B4:0,45,100,5))`},
		{`<div><p></p></div>`, `p{clear:both;margin-top:-5px;height:7px}`,
			`B1:0,0,100,2(B2:0,-5,100,7)`},
		{`<div><b></b><p></p></div>`, `b{float:right;width:40px;height:20px}p{clear:left;margin-top:-5px;height:7px}`,
			`B1:0,0,100,20(B2:60,0,40,20 B3:0,-5,100,7)`},
	})
}

// P120, 3: a strand stands beside floats, if it has room there, else below them.
func TestBeside(t *testing.T) {
	for _, c := range [][2]string{
		{`p{width:50px;margin:0 4px 0 6px}`, `B1:0,0,100,20(B2:0,0,40,20 B3:46,0,50,5)`},
		{`p{width:50px;margin:0 5px 0 6px}`, `B1:0,0,100,25(B2:0,0,40,20 B3:6,20,50,5)`},
		{`p{width:50px;padding:0 5px}`, `B1:0,0,100,20(B2:0,0,40,20 B3:40,0,60,5)`},
		{`p{width:60px;margin:0 auto}`, `B1:0,0,100,25(B2:0,0,40,20 B3:20,20,60,5)`},
		{``, `B1:0,0,100,25(B2:0,0,40,20 B3:0,20,100,5)`},
		{`p{margin-top:20px}`, `B1:0,0,100,25(B2:0,0,40,20 B3:0,20,100,5)`},
		{`p{width:60px;margin-top:15px}`, `B1:0,0,100,20(B2:0,0,40,20 B3:40,15,60,5)`},
		{`p{display:flex;width:60px;overflow:visible}`, `B1:0,0,100,20(B2:0,0,40,20 F3:40,0,60,5)`},
		{`p{display:grid;width:61px;overflow:visible}`, `B1:0,0,100,25(B2:0,0,40,20 G3:0,20,61,5)`},
		{`b{float:right}p{width:60px}`, `B1:0,0,100,20(B2:60,0,40,20 B3:0,0,60,5)`},
		{`b{width:120px}`, `B1:0,0,100,25(B2:0,0,120,20 B3:0,20,100,5)`},
	} {
		holdPages(t, []pageOf{{`<div><b></b><p></p></div>`, `b{float:left;width:40px;height:20px}p{overflow:hidden;height:5px}` + c[0], c[1]}})
	}
	holdPages(t, []pageOf{
		// It is enough that one of both floats ends.
		{`<div><b></b><i></i><p></p></div>`, `b{float:left;width:40px;height:20px}i{float:right;width:30px;height:10px}p{overflow:hidden;width:60px;height:5px}`,
			`B1:0,0,100,20(B2:0,0,40,20 B3:70,0,30,10 B4:40,10,60,5)`},
		// A flat float is one part high.
		{`<div><b></b><i></i><p></p></div>`, `b{float:left;width:40px;height:0}i{float:right;width:30px;height:10px}p{overflow:hidden;width:60px;height:5px}`,
			`B1:0,0,100,10(B2:0,0,40,0 B3:70,0,30,10 B4:0,0+1,60,5)`},
		// What is open begins where the strand was set down, though it goes further down.
		{`<div><b></b><p><i></i></p></div>`, `b{float:left;width:40px;height:20px}p{margin:3px 0 0 10px}i{display:block;overflow:hidden;width:70px;height:5px}`,
			`B1:0,0,100,25(B2:0,0,40,20 B3:10,3,90,22(B4:10,20,70,5))`},
		{`<div><b></b><p><i></i></p></div>`, `b{float:left;width:40px;height:20px}p{margin:3px 0 0 10px}i{display:block;overflow:hidden;width:50px;height:5px}`,
			`B1:0,0,100,20(B2:0,0,40,20 B3:10,3,90,5(B4:40,3,50,5))`},
		// Floats of another flow are not there.
		{`<div><h><b></b></h><p></p></div>`, `b{float:left;width:120px;height:20px}h{width:10px;height:1px}p{overflow:hidden;height:5px}`,
			`B1:0,0,100,6(B2:0,0,10,1(B3:0,0,120,20) B4:0,1,100,5)`},
	})
}
