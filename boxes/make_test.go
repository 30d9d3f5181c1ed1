package boxes

import (
	"strings"
	"testing"

	"casement/api"
	"casement/cascade"
	"casement/choose"
	"casement/tree"
)

// P70: each display has its kind of box, with the element as its node.
func TestKindsOfBoxes(t *testing.T) {
	holdPages(t, []page{
		{"<div></div>", "", "B1"},
		{"<li></li>", "li{list-style-type:none}", "B1"},
		{"<f></f>", "", "F1"},
		{"<g></g>", "", "G1"},
		{"<div><b></b></div>", "", "B1(L0(I2))"},
		{"<div><a></a></div>", "", "B1(L0(A2))"},
		{"<div><p></p></div>", "", "B1(B2)"},
		{"<div><f></f></div>", "", "B1(F2)"},
		{"<div><g></g></div>", "", "B1(G2)"},
		{"<div><li></li></div>", "li{list-style-type:none}", "B1(B2)"},
		{"<div>a</div>", "", `B1(L0(T2"a"))`},
		{"<div><!--a--></div>", "", "B1"},
		{"<div>a<!--b-->c</div>", "", `B1(L0(T2"a" T4"c"))`},
		{"<div><br></div>", "", "B1(L0(/2))"},
		{"<div>a<br>b<br></div>", "", `B1(L0(T2"a" /3 T4"b" /5))`},
	})
}

// P70: an element of the display none makes nothing, with all that lies in it.
func TestNone(t *testing.T) {
	holdPages(t, []page{
		{"<div><n>a<p>b</p></n>c</div>", "", `B1(L0(T6"c"))`},
		{"<div><n></n></div>", "p{display:block}", "B1"},
		{"<n>a</n>", "", "nil"},
		{"<div><br></div>", "br{display:none}", "B1"},
		{"<n><n>a</n></n>", "n n{display:block}", "nil"},
		{"<div><n><b>a</b></n><i></i></div>", "b{counter-increment:k 5}n{counter-reset:k 7}i{content:counter(k)}", `B1(L0(I5(T5"0")))`},
		{"<div><n></n><li></li></div>", "n{counter-increment:list-item}li{list-style-type:decimal}", `B1(B3(L0(T3"1. ")))`},
		{"<div><n></n></div>", "n{content:'x'}", "B1"},
	})
}

// P70: contents: an element makes its kids, and no box.
func TestContents(t *testing.T) {
	holdPages(t, []page{
		{"<div>a<c>b</c>d</div>", "", `B1(L0(T2"a" T4"b" T5"d"))`},
		{"<div><c></c></div>", "", "B1"},
		{"<div><c><c>a<b>b</b></c></c></div>", "", `B1(L0(T4"a" I5(T6"b")))`},
		{"<div><c><p>a</p></c></div>", "", `B1(B3(L0(T4"a")))`},
		{"<div><b><c><p>a</p></c></b></div>", "", `B1(B2(B4(L0(T5"a"))))`},
		{"<div><c>a</c></div>", "c{content:'x'}", `B1(L0(T2"x" T3"a"))`},
		{"<div><c>a</c><b></b></div>", "c{counter-reset:k 3;counter-increment:k 2}b{content:counter(k)}", `B1(L0(T3"a" I4(T4"5")))`},
		{"<div><c>a</c></div>", "c{float:left}", `B1(L0(T3"a"))`},
		{"<div><c>a</c></div>", "c{position:absolute}", `B1(L0(T3"a"))`},
		{"<c>a</c>", "", `B1(L0(T2"a"))`},
		{"<f><c>a<b>b</b></c></f>", "", `F1(B0(L0(T3"a")) B4(L0(T5"b")))`},
	})
	b := made(t, "<div><c>a</c>b</div>", "c{color:red}")
	if got := find(b, `T3"a"`).Style.V[api.PColor].N; got != 0xff0000 {
		t.Errorf("a text in contents: %x", got)
	}
	if got := find(b, `T4"b"`).Style.V[api.PColor].N; got != 0 {
		t.Errorf("a text behind contents: %x", got)
	}
}

// grown: an element with kids, which markup could not say; behind it one that tells a counter; both in a div, which is the last node.
func grown(t *testing.T, tag, style string, kids ...func(*tree.Tree) (int, error)) *tree.Tree {
	t.Helper()
	d := tree.New()
	var all []int
	for _, make := range kids {
		id, _ := make(d)
		all = append(all, id)
	}
	outer := styledElement(t, d, tag, style)
	teller := styledElement(t, d, "b", "content:counter(k)")
	div := styledElement(t, d, "div", "")
	for i, id := range all {
		d.Put(outer, id, i)
	}
	d.Put(div, outer, 0)
	d.Put(div, teller, 1)
	return d
}

func styledElement(t *testing.T, d *tree.Tree, tag, style string) int {
	t.Helper()
	id, err := d.Element(tag)
	if err != nil {
		t.Fatal(err)
	}
	d.Set(id, "style", style)
	return id
}

// saying: a text.
func saying(text string) func(*tree.Tree) (int, error) {
	return func(d *tree.Tree) (int, error) { return d.Text(text) }
}

// P70: a br is a break, whatever it is told to be beside contents and none; it has no kids, no marker and no content; it counts, and so does what lies in it.
func TestBreaks(t *testing.T) {
	counts := func(d *tree.Tree) (int, error) { return styledElement(t, d, "i", "counter-increment:k 4"), nil }
	for _, c := range [][2]string{
		{"", `B4(L0(/2 I3(T3"4")))`},
		{"display:block;content:'a'", `B4(L0(/2 I3(T3"4")))`},
		{"display:flex", `B4(L0(/2 I3(T3"4")))`},
		{"display:list-item", `B4(L0(/2 I3(T3"4")))`},
		{"float:left", `B4(L0(/2 I3(T3"4")))`},
		{"position:fixed;counter-increment:k 2", `B4(L0(/2 I3(T3"6")))`},
		{"counter-reset:k 7", `B4(L0(/2 I3(T3"11")))`},
		{"display:none;counter-reset:k 7", `B4(L0(I3(T3"0")))`},
		{"display:contents;content:'a'", `B4(L0(T2"a" I1 I3(T3"4")))`},
	} {
		d := grown(t, "br", c[0], counts)
		if got := shown(Make(d, 4, []cascade.Source{mustSource(t, base, true)}, cascade.View{})); got != c[1] {
			t.Errorf("%s: %s, want %s", c[0], got, c[1])
		}
	}
	d := grown(t, "br", "", saying("x"))
	if got := shown(Make(d, 4, []cascade.Source{mustSource(t, base, true)}, cascade.View{})); got != `B4(L0(/2 I3(T3"0")))` {
		t.Errorf("a break with a text: %s", got)
	}
	b := made(t, "<div><br>a</div>", "br{color:red}")
	if got := find(b, "/2").Style.V[api.PColor].N; got != 0xff0000 {
		t.Errorf("a break's own style: %x", got)
	}
}

// P70: empty texts make nothing; texts that stand together stay apart.
func TestTexts(t *testing.T) {
	d := grown(t, "p", "", saying(""), saying("x"), saying("y"), func(d *tree.Tree) (int, error) { return d.Comment("z") }, saying(""))
	if got := shown(Make(d, 6, nil, cascade.View{})); got != `B6(L0(T2"x" T3"y"))` {
		t.Error(got)
	}
	text := strings.Repeat("a b\n", 5000)
	d = grown(t, "p", "", saying(text))
	if got := Make(d, 2, nil, cascade.View{}); got.Kids[0].Kids[0].Text != text {
		t.Error("a long text is another one")
	}
}

// P70: content comes ahead of the kids and behind the marker.
func TestContent(t *testing.T) {
	holdPages(t, []page{
		{"<div><b>x</b></div>", "b{content:'<\\''}", `B1(L0(I2(T2"<'" T3"x")))`},
		{"<div><b>x</b></div>", "b{content:none}", `B1(L0(I2(T3"x")))`},
		{"<div><b>x</b></div>", "b{content:'none'}", `B1(L0(I2(T2"none" T3"x")))`},
		{"<div><b>x</b></div>", "b{content:'counter(k)'}", `B1(L0(I2(T2"counter(k)" T3"x")))`},
		{"<div><b>x</b></div>", "b{content:''}", `B1(L0(I2(T2"" T3"x")))`},
		{"<div></div>", "div{content:'x'}", `B1(L0(T1"x"))`},
		{"<div></div>", "div{content:''}", "B1"},
		{"<div></div>", "div{content:'';white-space:pre}", `B1(L0(T1""))`},
		{"<div></div>", "div{content:' '}", "B1"},
		{"<li>x</li>", "li{content:'y'}", "B1(L0(T1\"\u2022 \" T1\"y\" T2\"x\"))"},
		{"<f>x</f>", "f{content:'y'}", `F1(B0(L0(T1"y" T2"x")))`},
		{"<div><b></b></div>", "b{content:counter(none)}", `B1(L0(I2(T2"0")))`},
		{"<div><b></b></div>", "b{content:COUNTER( k );counter-reset:k -3}", `B1(L0(I2(T2"-3")))`},
		{"<div><b></b></div>", "b{content:counter(K);counter-reset:k 3}", `B1(L0(I2(T2"0")))`},
		{"<div><b></b></div>", "div{content:counter(k);counter-reset:k 3}b{content:inherit;counter-increment:k}", `B1(L0(T1"3" I2(T2"4")))`},
	})
}

// P70: numbers of counters: reset, then made more, then counted as items of lists are; in the tree's order.
func TestCounters(t *testing.T) {
	holdPages(t, []page{
		{"<div><b></b><b></b></div>", "b{counter-increment:k;content:counter(k)}", `B1(L0(I2(T2"1") I3(T3"2")))`},
		{"<div><b></b><b></b></div>", "b{counter-increment:k 3;counter-reset:k 4;content:counter(k)}", `B1(L0(I2(T2"7") I3(T3"7")))`},
		{"<div><b></b></div>", "b{counter-increment:j 3;counter-reset:k 4;content:counter(k)}", `B1(L0(I2(T2"4")))`},
		{"<div><b></b></div>", "div{counter-reset:k 4}b{counter-reset:k;content:counter(k)}", `B1(L0(I2(T2"0")))`},
		{"<div><b><i></i></b><b></b></div>", "*{counter-increment:k;content:counter(k)}", `B1(L0(T1"1" I2(T2"2" I3(T3"3")) I4(T4"4")))`},
		{"<div><b><i></i></b><b></b></div>", "i{counter-reset:k 9}b{content:counter(k)}", `B1(L0(I2(T2"0" I3) I4(T4"9")))`},
		{"<div><b></b></div>", "div{counter-reset:k 1000000}b{counter-increment:k 1;content:counter(k)}", `B1(L0(I2(T2"1000000")))`},
		{"<div><b></b><b></b></div>", "div{counter-reset:k 999999}b{counter-increment:k 1000000;content:counter(k)}", `B1(L0(I2(T2"1000000") I3(T3"1000000")))`},
		{"<div><b></b><b></b></div>", "div{counter-reset:k 999998}b{counter-increment:k 1;content:counter(k)}", `B1(L0(I2(T2"999999") I3(T3"1000000")))`},
		{"<div><b></b></div>", "div{counter-reset:k -999999}b{counter-increment:k -2;content:counter(k)}", `B1(L0(I2(T2"-1000000")))`},
		{"<div><b></b><i></i></div>", "div{counter-reset:k 1000000}b{counter-increment:k 5}i{counter-increment:k -5;content:counter(k)}", `B1(L0(I2 I3(T3"999995")))`},
	})
}

// P70: items of lists count by themselves, whatever else counts their name.
func TestListItems(t *testing.T) {
	holdPages(t, []page{
		{"<div><li>a</li><li>b</li></div>", "", "B1(B2(L0(T2\"\u2022 \" T3\"a\")) B4(L0(T4\"\u2022 \" T5\"b\")))"},
		{"<div><li>a</li></div>", "li{list-style-type:none}", `B1(B2(L0(T3"a")))`},
		{"<div><p>a</p></div>", "p{list-style-type:decimal}", `B1(B2(L0(T3"a")))`},
		{"<div><li></li><li></li></div>", "div{list-style-type:decimal}", `B1(B2(L0(T2"1. ")) B3(L0(T3"2. ")))`},
		{"<div><li></li><li></li></div>", "li{list-style-type:decimal;counter-increment:list-item}", `B1(B2(L0(T2"2. ")) B3(L0(T3"4. ")))`},
		{"<div><li></li><li></li></div>", "li{list-style-type:decimal;counter-reset:list-item -3}", `B1(B2(L0(T2"-2. ")) B3(L0(T3"-2. ")))`},
		{"<div><li></li></div>", "div{list-style-type:decimal;counter-reset:list-item 1000000}", `B1(B2(L0(T2"1000000. ")))`},
		{"<div><li></li></div>", "div{list-style-type:decimal;counter-reset:list-item -999999}li{counter-increment:list-item -9}", `B1(B2(L0(T2"-999999. ")))`},
		{"<div><li></li><b></b></div>", "b{content:counter(list-item)}", "B1(B2(L0(T2\"\u2022 \")) L0(I3(T3\"1\")))"},
		{"<div><li></li><b></b></div>", "li{list-style-type:none}b{content:counter(list-item)}", `B1(B2 L0(I3(T3"1")))`},
		{"<div><li></li><li></li></div>", "li{list-style-type:lower-alpha}li+li{display:none}", `B1(B2(L0(T2"a. ")))`},
		{"<div><li></li></div>", "li{float:left}", "B1(B2(L0(T2\"\u2022 \")))"},
		{"<li></li>", "", "B1(L0(T1\"\u2022 \"))"},
		{"<f><li>a</li></f>", "", "F1(B2(L0(T2\"\u2022 \" T3\"a\")))"},
	})
	if got := made(t, "<li>x</li>", "li{color:red}"); find(got, "T1\"\u2022 \"").Style != got.Style {
		t.Error("a marker's style is not that of its element")
	}
}

// P70: numbers as letters.
func TestLowerAlpha(t *testing.T) {
	for number, want := range map[string]string{
		"0": "a", "1": "b", "24": "y", "25": "z", "26": "aa", "27": "ab", "51": "az", "52": "ba", "701": "zz", "702": "aaa", "703": "aab", "18277": "zzz", "18278": "aaaa", "999999": "bdwgn", "1000000": "bdwgn",
		"-1": "0", "-2": "-1", "-1000000": "-999999",
	} {
		got := shown(made(t, "<li></li>", "li{list-style-type:lower-alpha;counter-reset:list-item "+number+"}"))
		if want := `B1(L0(T1"` + want + `. "))`; got != want {
			t.Errorf("%s: %s, want %s", number, got, want)
		}
	}
}

// P70: runs have their element's style, boxes their own; all these are as Styles tells them, of the root and what lies in it.
func TestStylesOfBoxes(t *testing.T) {
	d := mustGrow(t, "<div><p>a<b>c</b><c>d</c><li>e</li></p></div>")
	l := []cascade.Source{mustSource(t, base, true), mustSource(t, "div{color:red;--x:1}p{margin:1px}b{float:left}*{font-size:2em}p:hover{width:3px}@media(min-width:5px){p{height:1px}}", false)}
	for _, v := range []cascade.View{{}, {Width: 5 * api.Unit, State: choose.State{Hover: []int{2}}}} {
		for _, root := range []int{1, 2, 4, 6} {
			ids, styles := cascade.Styles(d, root, l, v)
			holdStyles(t, d, Make(d, root, l, v), ids, styles)
		}
	}
}

func holdStyles(t *testing.T, d *tree.Tree, b *Box, ids []int, styles []cascade.Style) {
	t.Helper()
	owner := b.Node
	if d.Kind(owner) == api.Text {
		owner = d.Parent(owner)
	}
	for i, id := range ids {
		if b.Node > 0 && id == owner && told(*b.Style) != told(styles[i]) {
			t.Errorf("%s: %v, want %v", shown(b), *b.Style, styles[i])
		}
	}
	for _, kid := range b.Kids {
		holdStyles(t, d, kid, ids, styles)
	}
}

// P70, P1: what is no element makes no box; nor does a root that is a break, or nothing.
func TestNoBox(t *testing.T) {
	d := mustGrow(t, "<div>a<!--b--><br><n></n></div>")
	l := []cascade.Source{mustSource(t, base, true)}
	for _, root := range []int{-1 << 63, -1, 0, 2, 3, 4, 5, 6, 400, 1<<63 - 1} {
		if b := Make(d, root, l, cascade.View{}); b != nil {
			t.Errorf("%d: %s", root, shown(b))
		}
	}
	for _, root := range []int{-1, 0, 1} {
		if b := Make(nil, root, l, cascade.View{}); b != nil {
			t.Errorf("nil, %d: %s", root, shown(b))
		}
	}
	if got := shown(Make(d, 1, nil, cascade.View{Width: -1, Height: -1})); got != `B1(L0(T2"a" /4 I5))` {
		t.Errorf("no sheets: %s", got)
	}
	if got := shown(Make(d, 1, []cascade.Source{{}, {Base: true}}, cascade.View{State: choose.State{Hover: []int{-1, 99}}})); got != `B1(L0(T2"a" /4 I5))` {
		t.Errorf("nil sheets: %s", got)
	}
	for _, rules := range []string{"", "br{display:contents}", "br{display:block;content:'x'}", "br{display:list-item}", "br{display:none}", "br{float:left}"} {
		if got := made(t, "<br>", rules); got != nil {
			t.Errorf("br with %s: %s", rules, shown(got))
		}
	}
}

// P70: a root may lie anywhere; what lies around it says nothing.
func TestRootWithin(t *testing.T) {
	d := mustGrow(t, "<n><f><b>a<p>c</p></b></f></n>")
	l := []cascade.Source{mustSource(t, base, true), mustSource(t, "n{color:red;counter-reset:k 5}b{content:counter(k)}", false)}
	b := Make(d, 3, l, cascade.View{})
	if got := shown(b); got != `B3(L0(T3"0" T4"a") B5(L0(T6"c")))` {
		t.Error(got)
	}
	if got := b.Style.V[api.PColor].N; got != 0 {
		t.Errorf("%x", got)
	}
	alone, _ := d.Element("b")
	if got := shown(Make(d, alone, nil, cascade.View{})); got != "B7" {
		t.Error(got)
	}
}

// P2, P4: a page is only read, boxes are new each time, and nothing is counted on from one call to the next.
func TestBoxesAreNew(t *testing.T) {
	d := mustGrow(t, "<div>a<b>c</b> <p>d</p><li></li></div>")
	l := []cascade.Source{mustSource(t, base, true), mustSource(t, "li{list-style-type:decimal}*{--x:1}", false)}
	first := Make(d, 1, l, cascade.View{})
	want := shown(first)
	spoil(first)
	second := Make(d, 1, l, cascade.View{})
	if got := shown(second); got != want {
		t.Errorf("%s, then %s", want, got)
	}
	ids, styles := cascade.Styles(d, 1, l, cascade.View{})
	holdStyles(t, d, second, ids, styles)
	if d.Undo(); d.Words(2) != "a" || len(d.Kids(1)) != 5 {
		t.Error("the tree is another one")
	}
}

// spoil all of a box.
func spoil(b *Box) {
	for i, kid := range b.Kids {
		spoil(kid)
		b.Kids[i] = nil
	}
	clear(b.Style.V)
	clear(b.Style.Vars)
	*b = Box{}
}

// P1: pages of as many nodes as there may be, deep and wide.
func TestGreatPages(t *testing.T) {
	for _, tag := range []string{"div", "b", "a", "f", "c", "li"} {
		deep, wide := tree.New(), tree.New()
		inner, outer := styledElement(t, deep, tag, ""), styledElement(t, wide, tag, "")
		for deep.Size() < api.MaxNodes {
			id := styledElement(t, deep, tag, "")
			deep.Put(inner, id, 0)
			inner = id
			kid := styledElement(t, wide, tag, "counter-increment:k;content:counter(k)")
			wide.Put(outer, kid, len(wide.Kids(outer)))
		}
		l := []cascade.Source{mustSource(t, base, true)}
		if Make(deep, 1, l, cascade.View{}) == nil {
			t.Errorf("%s: no deep box", tag)
		}
		if b := Make(wide, 1, l, cascade.View{}); find(b, `T399"398"`) == nil {
			t.Errorf("%s: no wide box: %s", tag, shown(b))
		}
	}
}
