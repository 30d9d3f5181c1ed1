package markup

import (
	"fmt"
	"strings"
	"testing"

	"casement/api"
	"casement/plain"
	"casement/tree"
)

// writes: a node is to be written, so that what is read of the text is the same again.
func writes(t *testing.T, d *tree.Tree, id int) string {
	t.Helper()
	before := show(d, id)
	text, err := Write(d, id)
	if err != nil {
		t.Errorf("Write of %.200s: %v", before, err)
		return ""
	}
	if len(text) > api.MaxText {
		t.Errorf("Write of %.200s: %d bytes", before, len(text))
	}
	if got := show(read(t, text), 0); got != before || show(d, id) != before {
		t.Errorf("Write of %.200s: %.200q, which is\n%.200s", before, text, got)
	}
	return text
}

// refuses: a node is to be refused with an error that tells no place.
func refuses(t *testing.T, d *tree.Tree, id int, want error) {
	t.Helper()
	text, err := Write(d, id)
	code, at := plain.Code(err)
	wanted, _ := plain.Code(want)
	if code != wanted || at != -1 || text != "" {
		t.Errorf("Write(%d) of %.200s: %q, error %d at %d, want %d", id, show(d, 0), text, code, at, wanted)
	}
}

// P32: what can be written.
func TestWrites(t *testing.T) {
	for _, s := range []string{
		``,
		`"a"`,
		`"a<b>&amp;\"'\x00\xff\n "`,
		`"<!--" b() "-->"`,
		`"</b" b() "<b"`,
		`"&" b() "amp;" !"" ";"`,
		`"&#65;&lt;&&&"`,
		`b()`,
		`b(b(b("x") "y") "z")`,
		`b() b() "x" b()`,
		`a b="c" d="" e="\"'<>&amp;& =/\x00\xff\n"()`,
		`a z="1" y="2" x="3"()`,
		`a-b_c:1 d-e_f:2="x"()`,
		`!""`, `!"-"`, `!"--"`, `!">"`, `!"->"`, `!"--!>"`, `!"<!--"`, `!"-- >"`, `!"a" !"b"`, `!"&amp;\xff"`, `b(!"</b>")`,
		`br() hr() img() input() link() meta() wbr()`,
		`br a="b"() "x"`,
		`p("a") p("b") div(p())`,
		`p(button(p() div(p())))`,
		`ul(li("a") li(ul(li("b"))) "c")`,
		`table(tr(td(table(tr(td()))) th()))`,
		`td(tr(td()))`,
		`select(option("a") option("b"))`,
		`style() "x"`,
		`style("a<b>&lt;&<!--") "x"`,
		`style(" ")`,
		`style("</style")`,
		`style("</") style("</styl")`,
		`style("</styles></ style></script>") script("</style>")`,
		`style("</style\v>")`,
		`script a="</script>"("x")`,
		`b(style("a") "b" script("c"))`,
		deep(api.MaxDeep, "b", `"x"`),
		deep(api.MaxDeep+1, "b", ``),
		deep(api.MaxDeep, "b", `b() b a="c"() "x" i() br() "y" b() !"z" b()`) + ` "w"`,
		deep(api.MaxDeep, "b", `style() "x<" script() "y"`),
		deep(api.MaxDeep-1, "b", `style("</b>") b(b()) "x"`),
	} {
		writes(t, build(t, s), 0)
	}
}

// P32: what no text is of.
func TestNoText(t *testing.T) {
	for _, s := range []string{
		`""`,
		`b("")`,
		`"a" ""`,
		`"a" "b"`,
		`b("a" "b")`,
		`!"-->"`,
		`!"a-->b"`,
		`!"--->"`,
		`b(!"-->")`,
		`br("x")`, `hr(b())`, `img(!"")`, `input("x")`, `link("x")`, `meta("x")`, `wbr(br())`,
		`p(p())`,
		`p(b(div()))`,
		`p(hr())`,
		`p() p(ul(li()))`,
		`li(li())`,
		`li(b(li()))`,
		`li(li() li())`,
		`ul(li(p(li())))`,
		`dt(dd())`,
		`option(b(option()))`,
		`tr(td(tr()))`,
		`td(b(th()))`,
		`table(tr(td(b(td()))))`,
		`button(p(p()))`,
		`style("")`,
		`style(b())`,
		`style(!"a")`,
		`style("a" "b")`,
		`style("a" b())`,
		`style("</style>")`,
		`style("a</STYLE b")`,
		`style("</style/")`,
		`style("</style\f")`,
		`script("</script>x")`,
		`script("</Script ")`,
		deep(api.MaxDeep+1, "b", `"x"`),
		deep(api.MaxDeep+1, "b", `b()`),
		deep(api.MaxDeep, "b", `style("x")`),
		deep(api.MaxDeep+2, "b", ``),
		deep(300, "b", ``),
		`b("x") ` + deep(api.MaxDeep+1, "i", `!"y"`),
	} {
		refuses(t, build(t, s), 0, api.ErrShape)
	}
}

// P32: a node within a tree is written as if its kids stood in a document: neither it nor what lies around it matters.
func TestWriteElement(t *testing.T) {
	for _, c := range [][2]string{
		{`p(p("x"))`, `p("x")`},
		{`p(div("x" b()) "y")`, `div("x" b()) "y"`},
		{`style("a<b>&lt;")`, `"a<b>&lt;"`},
		{`style("</style>" b() !"c")`, `"</style>" b() !"c"`},
		{`br("x" b("y"))`, `"x" b("y")`},
		{`b()`, ``},
		{`li(li() li())`, `li() li()`},
		{deep(api.MaxDeep+1, "b", `"x"`), deep(api.MaxDeep, "b", `"x"`)},
	} {
		d := build(t, c[0])
		text := writes(t, d, 1)
		if got := show(read(t, text), 0); got != c[1] {
			t.Errorf("%s: %s", c[0], got)
		}
	}
	d := build(t, `b("x" !"c")`)
	d.Take(1)
	if text := writes(t, d, 1); text == "" || writes(t, d, 0) != "" {
		t.Errorf("a root: %q", text)
	}
	refuses(t, build(t, `b(i("a" "b"))`), 1, api.ErrShape)
	refuses(t, build(t, `b(i("a" "b"))`), 2, api.ErrShape)
}

// P32: wrong numbers, and nodes that have no kids.
func TestWriteWrong(t *testing.T) {
	d := build(t, `b("x" !"c")`)
	for _, id := range []int{-1, 4, 400, 1 << 40, -1 << 63} {
		refuses(t, d, id, api.ErrNode)
	}
	refuses(t, d, 2, api.ErrPlace)
	refuses(t, d, 3, api.ErrPlace)
	text, err := Write(nil, 0)
	if code, at := plain.Code(err); code != 4 || at != -1 || text != "" {
		t.Error("nil", text, err)
	}
	d = build(t, `!"-->" ""`)
	refuses(t, d, 1, api.ErrPlace)
	refuses(t, d, 2, api.ErrPlace)
}

// P32: how long a text may be. (All of these have one of at most MaxText bytes, or none at all.)
func TestWriteLong(t *testing.T) {
	half := api.MaxText / 2
	for _, c := range []struct {
		sign string
		size int
	}{{"x", 1}, {"<", 4}, {">", 4}, {"&", 5}, {`"`, 6}, {"'", 1}, {"\xff", 1}} {
		long := strings.Repeat(c.sign, half/c.size)
		writes(t, build(t, fmt.Sprintf("%q", long)), 0)
		writes(t, build(t, fmt.Sprintf("!%q", long)), 0)
		writes(t, build(t, fmt.Sprintf("style(%q)", long[20:])), 0)
		writes(t, build(t, fmt.Sprintf("a b=%q()", long[20:])), 0)
	}
	// Around the bound either answer may be right, but a text is never longer than that.
	d := build(t, `b("x")`)
	for n := api.MaxText - 9; n <= api.MaxText-3; n++ {
		d.Say(2, strings.Repeat("x", n))
		if _, err := Write(d, 0); err == nil {
			writes(t, d, 0)
		}
	}
	d.Say(2, strings.Repeat("x", api.MaxText-2))
	refuses(t, d, 0, api.ErrShape)
	writes(t, build(t, fmt.Sprintf("%q", strings.Repeat("x", api.MaxText))), 0)
	d = build(t, `a()`)
	for i := range 3000 {
		d.Set(1, fmt.Sprintf("a%d", i), strings.Repeat("&", i%100))
	}
	refuses(t, d, 0, api.ErrShape)
}

// P32: as many nodes as a tree may have.
func TestWriteMany(t *testing.T) {
	d := tree.New()
	for i := 1; i < api.MaxNodes; i++ {
		id, err := d.Element("b")
		if err != nil || d.Put(0, id, i-1) != nil {
			t.Fatal(err)
		}
	}
	writes(t, d, 0)
}

// P4: what is written is only read, and there is nothing to undo of it.
func TestWriteOnlyReads(t *testing.T) {
	d := build(t, `p(p("a" "b")) !"-->"`)
	d.Set(1, "c", "d")
	before := fmt.Sprint(show(d, 0), d.Size())
	for id := -1; id <= d.Size(); id++ {
		Write(d, id)
	}
	if got := fmt.Sprint(show(d, 0), d.Size()); got != before {
		t.Error(got)
	}
	if !d.Undo() || d.Undo() {
		t.Error("undo")
	}
}
