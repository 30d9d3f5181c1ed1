package boxes

import (
	"strconv"
	"strings"
	"testing"

	"casement/api"
	"casement/cascade"
)

// P71: a part of a line that has a block in it is a block; from within outwards.
func TestInlinesWithBlocks(t *testing.T) {
	holdPages(t, []page{
		{"<div><b>a<p>c</p>d</b></div>", "", `B1(B2(L0(T3"a") B4(L0(T5"c")) L0(T6"d")))`},
		{"<div>x<b><i><p></p></i></b>y</div>", "", `B1(L0(T2"x") B3(B4(B5)) L0(T6"y"))`},
		{"<div><b><f></f></b><i><g></g></i></div>", "", "B1(B2(F3) B4(G5))"},
		{"<div><b><li></li></b></div>", "li{list-style-type:none}", "B1(B2(B3))"},
		{"<div><b><p>a</p></b></div>", "p{float:left}", `B1(L0(I2(B3(L0(T4"a")))))`},
		{"<div><b><p>a</p></b></div>", "p{position:absolute}", `B1(L0(I2(B3(L0(T4"a")))))`},
		{"<div><b><f></f></b></div>", "f{position:fixed}", "B1(L0(I2(F3)))"},
		{"<div><b><p>a</p></b></div>", "p{position:relative}", `B1(B2(B3(L0(T4"a"))))`},
		{"<div><b><a><p>c</p></a></b></div>", "", `B1(L0(I2(A3(B4(L0(T5"c"))))))`},
		{"<div><b><a><i><p>c</p></i></a></b></div>", "", `B1(L0(I2(A3(B4(B5(L0(T6"c")))))))`},
		{"<div><b> <i>x</i> </b></div>", "", `B1(L0(I2(T3" " I4(T5"x") T6" ")))`},
		{"<div><b> </b></div>", "", `B1(L0(I2(T3" ")))`},
	})
	b := made(t, "<div><b><p></p></b></div>", "b{color:red}")
	if v := find(b, "B2").Style.V; v[api.PDisplay].Text != "inline" || v[api.PColor].N != 0xff0000 {
		t.Errorf("its style is another one: %v", v)
	}
}

// P71: kids of blocks between two blocks are in lines, if one of them needs a line.
func TestGroups(t *testing.T) {
	for _, c := range []struct{ tag, open, close string }{{"div", "B1", ""}, {"a", "B9(L0(A1", "))"}} {
		for _, p := range [][2]string{
			{"x", `(L0(T2"x"))`},
			{" ", ""},
			{"", ""},
			{" \n\t\r\f ", ""},
			{"<p></p>", "(B2)"},
			{" <p></p> ", "(B3)"},
			{" x <p></p>", `(L0(T2" x ") B3)`},
			{"<p></p><p></p>", "(B2 B3)"},
			{"<p></p> <p></p>", "(B2 B4)"},
			{"<p></p>x<p></p>", `(B2 L0(T3"x") B4)`},
			{"x<p></p> <p></p>y<f></f>z<g></g>", `(L0(T2"x") B3 B5 L0(T6"y") F7 L0(T8"z") G9)`},
			{" <b></b> ", `(L0(T2" " I3 T4" "))`},
			{"<br>", "(L0(/2))"},
			{" <br><p></p><br>", `(L0(T2" " /3) B4 L0(/5))`},
			{"<n></n> <n></n>", ""},
			{"<l></l>", "(B2)"},
			{" <l></l> <l></l> ", "(B3 B5)"},
			{"<l></l>x", `(L0(B2 T3"x"))`},
			{" <l></l> <b></b> ", `(L0(T2" " B3 T4" " I5 T6" "))`},
			{" <l></l> <p></p>x<l></l>", `(B3 B5 L0(T6"x" B7))`},
			{"<p></p> <l></l> <p></p>", "(B2 B4 B6)"},
			{"<l></l> <p></p> ", "(B2 B4)"},
			{"<f class=l></f> <g class=l></g>x<p></p>", `(L0(F2 T3" " G4 T5"x") B6)`},
			{"<c> </c> ", ""},
			{"<c> </c>x", `(L0(T3" " T4"x"))`},
		} {
			d := mustGrow(t, "<"+c.tag+">"+p[0]+"</"+c.tag+">")
			root := 1
			want := c.open + p[1] + c.close
			if c.tag == "a" {
				outer, _ := d.Element("div")
				d.Put(outer, 1, 0)
				root = outer
				want = "B" + strconv.Itoa(outer) + c.open[2:] + p[1] + c.close
			}
			rules := "l{display:block;float:left}.l{position:absolute}"
			got := shown(Make(d, root, []cascade.Source{mustSource(t, base, true), mustSource(t, rules, false)}, cascade.View{}))
			if got != want {
				t.Errorf("%s in %s: %s, want %s", p[0], c.tag, got, want)
			}
		}
	}
}

// P71: which runs are blank.
func TestBlanks(t *testing.T) {
	for space, blank := range map[string]bool{"normal": true, "nowrap": true, "pre-line": true, "pre": false, "pre-wrap": false} {
		d := grown(t, "p", "white-space:"+space, saying("\t\n\f\r "))
		if got := len(Make(d, 2, nil, cascade.View{}).Kids); (got == 0) != blank {
			t.Errorf("%s: %d", space, got)
		}
		holdPages(t, []page{{"<div>\u00a0</div>", "div{white-space:" + space + "}", "B1(L0(T2\"\\u00a0\"))"}})
	}
	for _, text := range []string{"\v", "\x1f", "\u2003", "\u200b", "\u0085", "\x00", "."} {
		d := grown(t, "p", "", saying(" "+text+" "))
		if got := Make(d, 2, nil, cascade.View{}); len(got.Kids) != 1 {
			t.Errorf("%q is blank", text)
		}
	}
	holdPages(t, []page{
		{"<div><c> </c></div>", "c{white-space:pre}", `B1(L0(T3" "))`},
		{"<div><c> </c></div>", "div{white-space:pre}c{white-space:normal}", "B1"},
		{"<f> </f>", "f{white-space:pre-wrap}", `F1(B0(L0(T2" ")))`},
		{"<f> </f>", "f{white-space:nowrap}", "F1"},
	})
}

// P71: what shares a row or tracks is blocks alone.
func TestItems(t *testing.T) {
	for _, c := range [][2]string{
		{"", ""},
		{" ", ""},
		{"x", `(B0(L0(T2"x")))`},
		{"x<!--c-->y", `(B0(L0(T2"x" T4"y")))`},
		{"x<n></n> <n></n>y", `(B0(L0(T2"x" T4" " T6"y")))`},
		{" <c>x</c> ", `(B0(L0(T2" " T4"x" T5" ")))`},
		{"<c> </c> ", ""},
		{"x<b>y</b>z", `(B0(L0(T2"x")) B3(L0(T4"y")) B0(L0(T5"z")))`},
		{" <b></b> ", "(B3)"},
		{"<b> </b>", "(B2)"},
		{"<a>x</a>", `(B2(L0(T3"x")))`},
		{"<a> x<p>y</p></a>", `(B2(L0(T3" x") B4(L0(T5"y"))))`},
		{"<b>x<i>y</i></b>", `(B2(L0(T3"x" I4(T5"y"))))`},
		{"<b>x<i><p>y</p></i></b>", `(B2(L0(T3"x") B4(B5(L0(T6"y")))))`},
		{"<b> <p></p> </b>", "(B2(B4))"},
		{"<br>", ""},
		{"x<br>y", `(B0(L0(T2"x")) B0(L0(T4"y")))`},
		{" <br>y", `(B0(L0(T4"y")))`},
		{"<b>x<br></b>", `(B2(L0(T3"x" /4)))`},
		{"<c><br>x</c>", `(B0(L0(T4"x")))`},
		{"<p></p><f></f><g></g><li></li>", "(B2 F3 G4 B5)"},
		{"<l></l>", "(B2)"},
		{"x<l></l>y", `(B0(L0(T2"x")) B3 B0(L0(T4"y")))`},
		{" <l> </l> ", "(B3)"},
		{"<f class=l>x</f><g class=l> </g>", `(F2(B0(L0(T3"x"))) G4)`},
		{"<b class=l>x</b><a class=l>y</a>", `(B2(L0(T3"x")) B4(L0(T5"y")))`},
		{"<f><b>x</b></f>", `(F2(B3(L0(T4"x"))))`},
	} {
		for tag, kind := range map[string]string{"f": "F", "g": "G"} {
			holdPages(t, []page{{"<" + tag + ">" + c[0] + "</" + tag + ">", "l{display:block;float:left}.l{position:fixed}li{list-style-type:none}", kind + "1" + c[1]}})
			holdPages(t, []page{{"<" + tag + ">" + c[0] + "</" + tag + ">", "l{display:block;float:left}.l{position:fixed}li{list-style-type:none}" + tag + "{float:right}", kind + "1" + c[1]}})
		}
	}
}

// P71: what is aside is a block of its own wherever it stands.
func TestAside(t *testing.T) {
	for _, aside := range []string{"float:left", "float:right", "position:absolute", "position:fixed"} {
		rules := ".l{" + aside + "}"
		holdPages(t, []page{
			{"<div>x<b class=l>y</b></div>", rules, `B1(L0(T2"x" B3(L0(T4"y"))))`},
			{"<div><b class=l>y</b></div>", rules, `B1(B2(L0(T3"y")))`},
			{"<div>x<a class=l>y</a></div>", rules, `B1(L0(T2"x" B3(L0(T4"y"))))`},
			{"<div>x<b><b class=l> y<p></p> </b></b></div>", rules, `B1(L0(T2"x" I3(B4(L0(T5" y") B6))))`},
			{"<div>x<f class=l>y</f><g class=l></g></div>", rules, `B1(L0(T2"x" F3(B0(L0(T4"y"))) G5))`},
			{"<div>x<br class=l>y</div>", rules, `B1(L0(T2"x" /3 T4"y"))`},
			{"<div class=l>x</div>", rules, `B1(L0(T2"x"))`},
			{"<b class=l>x</b>", rules, `B1(L0(T2"x"))`},
			{"<div><b class=l> </b></div>", rules, "B1(B2)"},
			{"<div><n class=l></n></div>", rules, "B1"},
		})
	}
	for _, rules := range []string{"b{position:relative}", "b{float:none}", "b{position:static;clear:both}"} {
		holdPages(t, []page{{"<div><b>x</b></div>", rules, `B1(L0(I2(T3"x")))`}})
	}
}

// P71: as styles are made now, no part of a line is aside; it would become a block.
func TestAsidePartsOfLines(t *testing.T) {
	_, styles := cascade.Styles(mustGrow(t, "<i><b>"), 1, []cascade.Source{mustSource(t, "b{float:left}", false)}, cascade.View{})
	for _, kind := range []int{api.BInline, api.BAtom} {
		run := &Box{Kind: api.BRun, Node: 3, Style: &styles[1], Text: "x"}
		part := &Box{Kind: kind, Node: 2, Style: &styles[1], Kids: []*Box{run}}
		outer := &Box{Kind: api.BInline, Node: 1, Style: &styles[0], Kids: []*Box{part}}
		outer.putRight(false)
		if got := shown(outer); got != `I1(B2(L0(T3"x")))` {
			t.Error(got)
		}
		part = &Box{Kind: kind, Node: 2, Style: &styles[0], Kids: []*Box{run}}
		part.putRight(true)
		if got := shown(part); got != `B2(L0(T3"x"))` {
			t.Error(got)
		}
	}
}

// P71: roots that were parts of lines are blocks.
func TestRoots(t *testing.T) {
	holdPages(t, []page{
		{"<b>x</b>", "", `B1(L0(T2"x"))`},
		{"<a>x</a>", "", `B1(L0(T2"x"))`},
		{"<c>x<p></p></c>", "", `B1(L0(T2"x") B3)`},
		{"<b>x<p></p> </b>", "", `B1(L0(T2"x") B3)`},
		{"<b> </b>", "", "B1"},
		{"<b></b>", "", "B1"},
	})
}

// P71: a box of no node has what is handed down by its parent, and first values.
func TestNamelessStyles(t *testing.T) {
	rules := `x{color:red;font-size:20px;line-height:2;text-align:right;text-indent:1em;white-space:pre;visibility:hidden;pointer-events:none;list-style-type:decimal;--a:1;--b:var(--a) 2;
		margin:1px;padding:2px;border:3px blue;background:green;width:5px;height:6px;min-width:1px;max-width:9px;position:relative;top:1px;z-index:4;float:left;clear:both;overflow:hidden;vertical-align:sub;box-sizing:border-box;content:'q';
		counter-reset:n 1;counter-increment:n 2;flex-direction:column;flex-wrap:wrap;flex:2 3 4px;order:5;justify-content:end;align-items:end;align-self:end;gap:1px;grid-template-columns:1px;grid-template-rows:1px;grid-column-start:2;grid-column-span:2;grid-row-start:2;grid-row-span:2;
		display:%}`
	for display, paths := range map[string][]string{"block": {"L0"}, "list-item": {"L0"}, "flex": {"B0", "L0"}, "grid": {"B0", "L0"}} {
		b := made(t, "<div><x>a</x></div>", strings.Replace(rules, "%", display, 1))
		x := find(b, letterOf(kindOf(display))+"2")
		for _, path := range paths {
			got := find(x, path)
			if got == nil {
				t.Fatalf("%s: no %s in %s", display, path, shown(x))
			}
			if told(*got.Style) != told(nameless(x.Style)) {
				t.Errorf("%s: %s: %v, want %v", display, path, *got.Style, nameless(x.Style))
			}
		}
	}
}

// P71: it is the parent that hands down, be it a block that was a part of a line, or stand it in one that says otherwise.
func TestNamelessParents(t *testing.T) {
	b := made(t, "<div>a<b>c<p>d</p></b></div>", "div{color:red}b{color:blue;--x:1;border-color:red}p{color:green}")
	for path, want := range map[string]int{`L0(T2"a")`: 0xff0000, `L0(T4"c")`: 0x0000ff, `L0(T6"d")`: 0x008000} {
		style := find(b, path).Style
		if style.V[api.PColor].N != want || style.V[api.PBorderColor].N != want || style.V[api.PDisplay].Text != "inline" {
			t.Errorf("%s: %v", path, *style)
		}
	}
	if vars := find(b, `L0(T2"a")`).Style.Vars; len(vars) != 0 {
		t.Error(vars)
	}
	if vars := find(b, `L0(T4"c")`).Style.Vars; len(vars) != 1 || vars[0] != (api.Attr{Name: "--x", Value: "1"}) {
		t.Error(vars)
	}
}
