package frame

import (
	"strings"
	"testing"

	"casement/api"
)

// P126: what items take of a row: by flex-basis, by their width, or by what lies in them; then they share it.
func TestRowShares(t *testing.T) {
	holdPages(t, []pageOf{
		{`<f><b></b><i></i></f>`, `b{width:20px;height:5px}i{flex:1;height:3px;align-self:end}`,
			`F1:0,0,100,5(B2:0,0,20,5 B3:20,2,80,3)`},
		{`<f><b>aa a</b><i></i></f>`, `b{padding:1px}i{flex-basis:30%;width:7px;height:5px}`,
			`F1:0,0,100,12(B2:0,0,19+32,12(L0:1,1,17+32,10("aa a":1,1,17+32,10)) B4:19+32,0,30,5)`},
		{`<f><b>aa</b><i></i></f>`, `b{width:20px;padding:2px;box-sizing:border-box}i{flex-basis:20px;padding:2px;box-sizing:border-box}`,
			`F1:0,0,100,14(B2:0,0,20,14(L0:2,2,16,10("aa":2,2,10,10)) B4:20,0,24,14)`},
		{`<f><b></b><i></i></f>`, `b{width:80px;height:5px}i{width:80px;height:5px;flex-shrink:3}`,
			`F1:0,0,100,5(B2:0,0,65,5 B3:65,0,35,5)`},
		{`<f><b></b><i></i></f>`, `b{width:80px;max-width:30px;height:5px;flex-grow:1}i{width:10%;min-width:20px;height:5px;flex-grow:1;max-width:40%}`,
			`F1:0,0,100,5(B2:0,0,30,5 B3:30,0,40,5)`},
		{`<f><b>aaaa</b></f>`, `b{max-width:12px}`,
			`F1:0,0,100,10(B2:0,0,12,10(L0:0,0,12,10("aaaa":0,0,20,10)))`},
		{`<f><b></b><i></i></f>`, `b{flex:1;height:5px;margin:0 5px}i{flex:1;height:5px;padding:0 10%}`,
			`F1:0,0,100,5(B2:5,0,35,5 B3:45,0,55,5)`},
		// Gaps are parts of what the row itself is laid in.
		{`<f><b></b><i></i></f>`, `f{gap:10%;padding:0 20px}b{flex:1;height:5px}i{flex:1;height:5px}`,
			`F1:0,0,100,5(B2:20,0,25,5 B3:55,0,25,5)`},
		{`<f>a<b>a</b> a<br> <i></i></f>`, `i{float:left;width:3px}`,
			`F1:0,0,100,10(B0:0,0,5,10(L0:0,0,5,10("a":0,0,5,10)) B3:5,0,5,10(L0:5,0,5,10("a":5,0,5,10)) B0:10,0,5,10(L0:10,0,5,10("a":10,0,5,10)) B8:15,0,3,10)`},
		{`<f><b></b><i></i></f>`, `b{margin:0 auto;width:10px;height:5px}i{float:right;width:10px;height:2px}`,
			`F1:0,0,100,5(B2:0,0,10,5 B3:10,0,10,2)`},
		{`<f></f>`, `f{padding:1px}`, `F1:0,0,100,2`},
	})
}

// P126: rows lie one below the other; a row alone is as high as the height that is told.
func TestRowsWrap(t *testing.T) {
	holdPages(t, []pageOf{
		{`<f><b></b><i></i><p></p></f>`, `f{flex-wrap:wrap;gap:2px 4px}b{width:60px;height:5px}i{width:36px;height:7px}p{flex:1;height:1px}`,
			`F1:0,0,100,10(B2:0,0,60,5 B3:64,0,36,7 B4:0,9,100,1)`},
		{`<f><b></b><i></i><p></p></f>`, `f{flex-wrap:wrap;gap:2px 4px;height:50px}b{width:60px;height:5px}i{width:37px;height:7px}p{width:100px}`,
			`F1:0,0,100,50(B2:0,0,60,5 B3:0,7,37,7 B4:0,16,100,0)`},
		{`<f><b></b><i></i></f>`, `f{flex-wrap:wrap;height:50px}b{width:60px}i{width:40px}`,
			`F1:0,0,100,50(B2:0,0,60,50 B3:60,0,40,50)`},
		{`<div><f><b></b><i></i></f></div>`, `f{flex-wrap:wrap;gap:10%;height:50%}b{width:60px;height:5px}i{width:60px;height:7px}`,
			`B1:0,0,100,12(F2:0,0,100,12(B3:0,0,60,5 B4:0,5,60,7))`},
		{`<div><f><b></b><i></i></f></div>`, `div{height:40px}f{flex-wrap:wrap;gap:10%}b{width:60px;height:5px}i{width:60px;height:7px}`,
			`B1:0,0,100,40(F2:0,0,100,16(B3:0,0,60,5 B4:0,9,60,7))`},
		{`<f><b></b><i></i></f>`, `b{width:60px;height:5px;flex-shrink:0}i{width:60px;height:7px;flex-shrink:0}`,
			`F1:0,0,100,7(B2:0,0,60,5 B3:60,0,60,7)`},
	})
}

// P126: how items stand in a row, across and down.
func TestRowStands(t *testing.T) {
	for _, c := range [][2]string{
		{`f{justify-content:between}`, `F1:0,0,100,7(B2:0,0,10,5 B3:80,0,20,7)`},
		{`f{justify-content:around;column-gap:2px}`, `F1:0,0,100,7(B2:17,0,10,5 B3:63,0,20,7)`},
		{`f{justify-content:end}`, `F1:0,0,100,7(B2:70,0,10,5 B3:80,0,20,7)`},
		{`f{justify-content:evenly;flex-direction:row-reverse}b{margin:0 1px 0 2px}`, `F1:0,0,100,7(B2:66+43,0,10,5 B3:22+22,0,20,7)`},
		{`f{justify-content:center;align-items:end}b{margin:1px 0 2px}i{height:17px}`, `F1:0,0,100,17(B2:35,10,10,5 B3:45,0,20,17)`},
		{`f{align-items:center}b{margin:1px 0 2px}i{height:17px;align-self:start}`, `F1:0,0,100,17(B2:0,5+32,10,5 B3:10,0,20,17)`},
		{`b{margin:1px 0 2px;padding:1px;height:auto}i{height:17px}`, `F1:0,0,100,17(B2:0,1,12,14 B3:12,0,20,17)`},
		{`b{max-height:5px;height:auto}i{height:17px}`, `F1:0,0,100,17(B2:0,0,10,5 B3:10,0,20,17)`},
		{`f{align-items:start}b{height:auto}`, `F1:0,0,100,7(B2:0,0,10,0 B3:10,0,20,7)`},
		{`f{align-items:start}b{height:auto;align-self:stretch}`, `F1:0,0,100,7(B2:0,0,10,7 B3:10,0,20,7)`},
		{`f{height:30px}b{height:50%}i{min-height:110%}`, `F1:0,0,100,30(B2:0,0,10,15 B3:10,0,20,33)`},
		{`f{min-height:30px}b{align-self:end}`, `F1:0,0,100,30(B2:0,2,10,5 B3:10,0,20,7)`},
		{`f{max-height:3px;padding:1px}b{align-self:end}`, `F1:0,0,100,5(B2:1,3,10,5 B3:11,1,20,7)`},
		{`b{order:1}i{order:-1}`, `F1:0,0,100,7(B2:20,0,10,5 B3:0,0,20,7)`},
		{`i{position:relative;left:10%;top:10%}`, `F1:0,0,100,7(B2:0,0,10,5 B3:20,0,20,7)`},
	} {
		holdPages(t, []pageOf{{`<f><b></b><i></i></f>`, `b{width:10px;height:5px}i{width:20px;height:7px}` + c[0], c[1]}})
	}
	// What is stretched has a height for what lies in it.
	holdPages(t, []pageOf{{`<f><b><p></p></b><i></i></f>`, `b{width:10px}p{height:50%}i{width:20px;height:17px}`,
		`F1:0,0,100,17(B2:0,0,10,17(B3:0,0,10,8+32) B4:10,0,20,17)`}})
}

// P126: columns.
func TestColumn(t *testing.T) {
	for _, c := range []pageOf{
		{`<b></b><i>a</i>`, `b{height:5px;margin:1px 2px 3px 4px}i{align-self:end}`,
			`F1:0,0,100,19(B2:4,1,94,5 B3:95,9,5,10(L0:95,9,5,10("a":95,9,5,10)))`},
		{`<b>aa</b><i>a</i>`, `f{align-items:center;row-gap:2px}b{width:20px;padding:1px;box-sizing:border-box}i{max-width:3px}`,
			`F1:0,0,100,24(B2:40,0,20,12(L0:41,1,18,10("aa":41,1,10,10)) B4:48+32,14,3,10(L0:48+32,14,3,10("a":48+32,14,5,10)))`},
		{`<b></b><i>a</i>`, `f{height:60px;gap:5px}b{flex:1;margin:1px}i{flex:2;max-height:20px}`,
			`F1:0,0,100,60(B2:1,1,98,33 B3:0,40,100,20(L0:0,40,100,10("a":0,40,5,10)))`},
		{`<b></b><i></i>`, `f{height:60px}b{flex:1;margin:1px 5px}i{height:10px}`,
			`F1:0,0,100,60(B2:5,1,90,48 B3:0,50,100,10)`},
		{`<b></b><i></i>`, `f{height:60px}b{height:50px}i{flex-basis:50%;flex-shrink:3}`,
			`F1:0,0,100,60(B2:0,0,100,42+54 B3:0,42+54,100,17+10)`},
		{`<b></b><i></i>`, `b{flex:1 1 50%;height:7px}i{flex:1 1 9px;height:7px;min-height:10px}`,
			`F1:0,0,100,17(B2:0,0,100,7 B3:0,7,100,10)`},
		{`<b></b><i></i>`, `f{height:40px;justify-content:end}b{height:5px}i{height:6px}`,
			`F1:0,0,100,40(B2:0,29,100,5 B3:0,34,100,6)`},
		{`<b></b><i></i>`, `f{min-height:40px;justify-content:end}b{height:5px}i{height:6px}`,
			`F1:0,0,100,40(B2:0,0,100,5 B3:0,5,100,6)`},
		{`<b></b><i></i>`, `f{flex-direction:column-reverse;min-height:40px;gap:1px}b{height:5px;margin-top:2px}i{height:6px}`,
			`F1:0,0,100,40(B2:0,9,100,5 B3:0,0,100,6)`},
		{`<b></b><i></i>`, `f{flex-direction:column-reverse;height:40px;gap:1px}b{height:5px;margin-top:2px}i{height:6px}`,
			`F1:0,0,100,40(B2:0,35,100,5 B3:0,26,100,6)`},
		{`<b><p></p></b>`, `f{height:40px}b{flex:1}p{height:50%}`,
			`F1:0,0,100,40(B2:0,0,100,40(B3:0,0,100,20))`},
		{`<b><p>a</p></b>`, `p{height:50%}`,
			`F1:0,0,100,10(B2:0,0,100,10(B3:0,0,100,5(L0:0,0,100,10("a":0,0,5,10))))`},
		{`<b></b><i></i>`, `f{flex-wrap:wrap;height:40px}b,i{height:30px;flex:none}`,
			`F1:0,0,100,40(B2:0,0,100,30 B3:0,30,100,30)`},
		// Ahead of its share it is as high as it is when it is laid, bounded.
		{`<b><p></p></b><i></i>`, `f{height:30px}p{height:40px}b{max-height:20px}i{height:20px}`,
			`F1:0,0,100,30(B2:0,0,100,15(B3:0,0,100,40) B4:0,15,100,15)`},
	} {
		c.text, c.rules = `<f>`+c.text+`</f>`, `f{flex-direction:column}`+c.rules
		holdPages(t, []pageOf{c})
	}
}

// P127: tables.
func TestTable(t *testing.T) {
	holdPages(t, []pageOf{
		{`<g><b></b><i></i><p></p></g>`, `g{grid-template-columns:20px 30px;gap:2px 3px}b{height:5px}i{height:7px}p{height:9px}`,
			`G1:0,0,100,18(B2:0,0,20,5 B3:23,0,30,7 B4:0,9,20,9)`},
		{`<g><b></b><i></i></g>`, `g{grid-template-columns:20% 1fr;gap:10%;padding:0 10px}b{height:5px}i{height:7px}`,
			`G1:0,0,100,7(B2:10,0,16,5 B3:36,0,54,7)`},
		{`<g><b>aa</b><i>aaa a</i></g>`, `b{margin:0 1px}i{align-self:end}`,
			`G1:0,0,100,20(B2:1,0,20+32,10(L0:1,0,20+32,10("aa":1,0,10,10)) B4:0,10,22+32,10(L0:0,10,22+32,10("aaa a":0,10,22+32,10)))`},
		{`<g><b>aa</b><i>aaa a</i></g>`, `g{grid-template-columns:auto auto}i{padding:1px;width:50%}`,
			`G1:0,0,100,22(B2:0,0,10,22(L0:0,0,10,10("aa":0,0,10,10)) B4:10,0,14+16,22(L0:11,1,12+16,20("aaa":11,1,15,10 "a":11,11,5,10)))`},
		{`<g><b></b><i></i><p></p></g>`, `g{grid-template-columns:20px 30px}b{height:5px;grid-row-start:2}i{height:7px;grid-column-start:2;grid-row-span:2}p{height:9px;order:-1}`,
			`G1:0,0,100,14(B2:0,9,20,5 B3:20,0,30,7 B4:0,0,20,9)`},
		{`<g><b></b><i></i></g>`, `g{grid-template-columns:20px 30px 40px;column-gap:1px}b{height:5px;grid-column-span:2;margin:1px 2px}i{height:50%;width:50%;padding:10%}`,
			`G1:0,0,100,8(B2:2,1,47,5 B3:52,0,28,8)`},
		{`<g><b></b><i></i></g>`, `g{grid-template-rows:10px 1fr 20%;height:50px;gap:2px}b{height:50%}i{grid-row-span:2}`,
			`G1:0,0,100,50(B2:0,0,0,25 B3:0,12,0,38)`},
		{`<g><b></b><i></i></g>`, `g{grid-template-rows:10px 1fr 20%;gap:2px}b{height:50%}i{height:12px}`,
			`G1:0,0,100,26(B2:0,0,0,10 B3:0,12,0,12)`},
		{`<g><b></b><i></i><p></p></g>`, `g{grid-template-columns:20px 20px 20px;align-items:center}b{height:5px;margin:1px 0 2px}i{height:17px}p{align-self:stretch;max-height:10px}`,
			`G1:0,0,100,17(B2:0,5+32,20,5 B3:20,0,20,17 B4:40,0,20,10)`},
		{`<g><b></b><i></i></g>`, `g{grid-template-columns:20px 20px;min-height:30px}b{width:30px;max-width:25px}i{min-width:27px;height:3px}`,
			`G1:0,0,100,30(B2:0,0,25,3 B3:20,0,27,3)`},
		{`<g><b></b><i>a</i></g>`, `g{padding:2px}b{position:absolute;width:1px;height:1px}`,
			`G1:0,0,100,14(B2:2,2,1,1 B3:2,2,5,10(L0:2,2,5,10("a":2,2,5,10)))`},
		{`<g></g>`, `g{grid-template-rows:10px 3px;grid-template-columns:10px;row-gap:1px}`,
			`G1:0,0,100,14`},
		{`<g><b><p></p></b><i></i></g>`, `g{grid-template-columns:20px 20px}p{height:50%}i{height:8px}`,
			`G1:0,0,100,8(B2:0,0,20,8(B3:0,0,20,4) B4:20,0,20,8)`},
		{`<g><b></b><i></i></g>`, `g{grid-template-columns:20px 20px}i{height:8px;position:relative;left:50%;top:50%}`,
			`G1:0,0,100,8(B2:0,0,20,8 B3:30,0,20,8)`},
		{`<g><b></b><i></i></g>`, `g{grid-template-columns:auto auto;row-gap:3px}b{float:right;width:4px;height:2px;margin:1px}i{grid-row-start:2;width:5px;height:2px;align-self:end}`,
			`G1:0,0,100,9(B2:1,1,4,2 B3:0,7,5,2)`},
	})
}

// P126, P127: the first MaxItems items in their order have frames; what waits is none of them.
func TestItemsTooMany(t *testing.T) {
	for _, tag := range []string{"f", "g"} {
		text := `<` + tag + `><u></u>` + strings.Repeat(`<b></b>`, api.MaxItems) + `<i></i></` + tag + `>`
		f := Lay(made(t, text, `u{position:absolute}i{order:-1;width:3px}`), 0, 0)
		if n := len(f.Kids); n != api.MaxItems+1 || f.Kids[0].Node != 2 || f.Kids[n-2].Node != api.MaxItems+1 || f.Kids[n-1].Node != api.MaxItems+3 {
			t.Error(tag, n, f.Kids[n-1].Node)
		}
	}
}

// P127: items may stand in tracks so far out that no need of theirs counts: these are nothing.
func TestTracksFarOut(t *testing.T) {
	text := `<g>` + strings.Repeat(`<b></b>`, 12) + `</g>`
	f := Lay(made(t, text, `b{width:20px;height:20px;grid-row-span:20}`), 100*api.Unit, 0)
	for n, kid := range f.Kids {
		if want := (api.Rect{Y: min(n, 10) * 20 * api.Unit, W: 20 * api.Unit, H: 20 * api.Unit}); kid.Rect != want {
			t.Error(n, kid.Rect)
		}
	}
	if f.Rect.H != 200*api.Unit {
		t.Error(f.Rect)
	}
	f = Lay(made(t, `<div>`+text+`</div>`, `b{width:20px;height:20px;grid-row-start:1;grid-column-span:20}g{float:left}`), 100*api.Unit, 0).Kids[0]
	for n, kid := range f.Kids {
		if want := (api.Rect{X: min(n, 10) * 20 * api.Unit, W: 20 * api.Unit, H: 20 * api.Unit}); kid.Rect != want {
			t.Error(n, kid.Rect)
		}
	}
	if f.Rect.W != 200*api.Unit {
		t.Error(f.Rect)
	}
}
