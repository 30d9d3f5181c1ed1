package markup

import (
	"fmt"
	"strings"
	"testing"

	"casement/api"
)

// P30: comments, and what is nothing.
func TestComments(t *testing.T) {
	reads(t, [][2]string{
		{`<!--a-->`, `!"a"`},
		{`<!---->`, `!""`},
		{`<!--`, `!""`},
		{`<!--a`, `!"a"`},
		{`<!--a--`, `!"a--"`},
		{`<!-->`, `!">"`},
		{`<!--->`, `!"->"`},
		{`<!----->`, `!"-"`},
		{`<!--a---->b`, `!"a--" "b"`},
		{`<!-- a -- b -->`, `!" a -- b "`},
		{`<!--<b>&lt;</b>--!>-->c`, `!"<b>&lt;</b>--!>" "c"`},
		{`<!--a--><!--b-->`, `!"a" !"b"`},
		{`<b><!--a-->b</b>`, `b(!"a" "b")`},
		{`<!-a-->b`, `"b"`},
		{`<!>a`, `"a"`},
		{`<!`, ``},
		{`<?`, ``},
		{`<?a b="c>d">e`, `"d\">e"`},
		{`<!doctype html>a`, `"a"`},
		{`a<!b`, `"a"`},
		{`a<?b`, `"a"`},
		{`< !--a-->`, `"< !--a-->"`},
	})
}

// P30: what is no other piece is text.
func TestTexts(t *testing.T) {
	reads(t, [][2]string{
		{``, ``},
		{`a`, `"a"`},
		{" \n", `" \n"`},
		{`<`, `"<"`},
		{`</`, `"</"`},
		{`<>`, `"<>"`},
		{`</>`, `"</>"`},
		{`< b>`, `"< b>"`},
		{`</ b>`, `"</ b>"`},
		{`<1>`, `"<1>"`},
		{`</1>`, `"</1>"`},
		{`<<b>`, `"<" b()`},
		{`</</b>`, `"</"`},
		{`a<b`, `"a"`},
		{`a</b`, `"a"`},
		{`a>b"c'=/`, `"a>b\"c'=/"`},
		{"<\u00e9>", "\"<\u00e9>\""},
		{"</\u00e9>", "\"</\u00e9>\""},
		{"<@><[><`><{>", "\"<@><[><`><{>\""},
		{"\x00\xff\xc3", `"\x00\xff\xc3"`},
		{"a\r\nb\rc", `"a\r\nb\rc"`},
	})
}

// P30: end tags.
func TestEndTags(t *testing.T) {
	reads(t, [][2]string{
		{`<b>x</b>y`, `b("x") "y"`},
		{`<b>x</B>y`, `b("x") "y"`},
		{`<B>x</b>y`, `b("x") "y"`},
		{`<b>x</b c="d>e">y`, `b("x") "e\">y"`},
		{`<b>x</b/>y`, `b("x") "y"`},
		{"<b>x</b\f>y", `b("x") "y"`},
		{"<b>x</b\v>y", `b("xy")`},
		{`<b>x</b<i>y`, `b("xy")`},
		{`<b>x</b=>y`, `b("xy")`},
		{`<b>x</b.>y`, `b("xy")`},
		{`<b>x</b`, `b("x")`},
		{`<b>x</b y<i>z`, `b("x") "z"`},
		{`<b>x</b y`, `b("x")`},
	})
	// Without its end it says nothing, and so does not close; all behind it is nothing.
	reads(t, [][2]string{{`a<b>x</b y<i z`, `"a" b("x")`}})
}

// P30: names of start tags, and the end of these.
func TestStartTags(t *testing.T) {
	long := strings.Repeat("a", api.MaxName)
	reads(t, [][2]string{
		{`<b>`, `b()`},
		{`<B>`, `b()`},
		{`<H1>`, `h1()`},
		{`<a>1</A><z>2</Z>3`, `a("1") z("2") "3"`},
		{`<A>1</a><Z>2</z>3`, `a("1") z("2") "3"`},
		{`<a-b_c:d1>`, `a-b_c:d1()`},
		{`<b/>x`, `b("x")`},
		{`<b//>x`, `b("x")`},
		{`<b />x`, `b("x")`},
		{"<b\t>x", `b("x")`},
		{"<b\n>x", `b("x")`},
		{"<b\f>x", `b("x")`},
		{"<b\r>x", `b("x")`},
		{`<b`, ``},
		{`<b `, ``},
		{`<b/`, ``},
		{`x<b y`, `"x"`},
		{`x<b y<i>z`, `"x" b("z")`},
		{`<a.b>x</a.b>`, `"x"`},
		{`<a.b c="d>e">x`, `"x"`},
		{`<a=b>x`, `"x"`},
		{`<a<b>x`, `"x"`},
		{"<a\v>x", `"x"`},
		{"<b\u212a>x", `"x"`},
		{"<" + long + ">x", long + `("x")`},
		{"<" + long + "a>x", `"x"`},
	})
}

// P30: attributes.
func TestAttributes(t *testing.T) {
	long := strings.Repeat("a", api.MaxName)
	reads(t, [][2]string{
		{`<a b>`, `a b=""()`},
		{`<a b c>`, `a b="" c=""()`},
		{`<a/b/c>`, `a b="" c=""()`},
		{`<a b=c>`, `a b="c"()`},
		{`<a B=C>`, `a b="C"()`},
		{`<a aAzZ=C>`, `a aazz="C"()`},
		{`<a b="c">`, `a b="c"()`},
		{`<a b='c'>`, `a b="c"()`},
		{`<a b="'">`, `a b="'"()`},
		{`<a b='"'>`, `a b="\""()`},
		{`<a b="c>d">`, `a b="c>d"()`},
		{`<a b="">`, `a b=""()`},
		{`<a b=>`, `a b=""()`},
		{`<a b= >`, `a b=""()`},
		{"<a b\t=\n c>", `a b="c"()`},
		{"<a b \r\f= \"c\" d>", `a b="c" d=""()`},
		{`<a b="c"d='e'f>`, `a b="c" d="e" f=""()`},
		{`<a b=c/d>`, `a b="c/d"()`},
		{`<a b=c/>`, `a b="c/"()`},
		{`<a b= />`, `a b="/"()`},
		{`<a b=c"d'e=f<g>`, `a b="c\"d'e=f<g"()`},
		{`<a b / c>`, `a b="" c=""()`},
		{`<a b / = c>`, `a b="" c=""()`},
		{`<a =>`, `a()`},
		{`<a =b>`, `a()`},
		{`<a =b=c d>`, `a d=""()`},
		{`<a ==b c>`, `a c=""()`},
		{`<a b==c>`, `a b="=c"()`},
		{`<a "b" c>`, `a c=""()`},
		{`<a 1=2 -=3 b.=4 c=5>`, `a c="5"()`},
		{"<a \u212a=1 c\xff=2>", `a()`},
		{"<a b\v=1>", `a()`},
		{"<a b=1\v2>", `a b="1\v2"()`},
		{`<a b=1 c=2 B=3 b>`, `a b="1" c="2"()`},
		{`<a b b=2>`, `a b=""()`},
		{`<a z=1 y=2 x=3>`, `a z="1" y="2" x="3"()`},
		{"<a " + long + "=1>", "a " + long + `="1"()`},
		{"<a " + long + "a=1>", `a()`},
		{`<br b=c>x`, `br b="c"() "x"`},
	})
}

// P30: a start tag without its end makes the rest of the text nothing.
func TestTagsWithoutEnd(t *testing.T) {
	for _, s := range []string{`<a b`, `<a b `, `<a b=`, `<a b= `, `<a b=c`, `<a b="`, `<a b="c`, `<a b='c">d<i>`, `<a b="c>d'<i>`, `<a b="c"`, `<a =`, `<a b/`, `<style`, `<style a='></style>y`} {
		reads(t, [][2]string{{"x" + s, `"x"`}})
	}
}

// P30: references.
func TestReferences(t *testing.T) {
	for _, c := range [][2]string{
		{"&amp;&lt;&gt;&quot;&apos;", "&<>\"'"},
		{"&nbsp;&shy;&zwsp;", "\u00a0\u00ad\u200b"},
		{"&#65;&#066;&#x43;&#X44;&#x00045;", "ABCDE"},
		{"&#xaf;&#xAF;&#xfa;&#xFA;&#x9b;", "\u00af\u00af\u00fa\u00fa\u009b"},
		{"&#xe9;&#xE9;&#233;", "\u00e9\u00e9\u00e9"},
		{"&#1;&#127;&#128;", "\x01\x7f\u0080"},
		{"&#10;&#9;&#32;", "\n\t "},
		{"&#x10FFFF;&#1114111;", "\U0010ffff\U0010ffff"},
		{"&#x110000;&#1114112;", "\ufffd\ufffd"},
		{"&#0;&#x0;&#000;", "\ufffd\ufffd\ufffd"},
		{"&#xD7FF;&#xD800;&#xDFFF;&#xE000;", "\ud7ff\ufffd\ufffd\ue000"},
		{"&#18446744073709551681;&#x10000000000000041;", "\ufffd\ufffd"},
		{"&#" + strings.Repeat("9", 400) + ";", "\ufffd"},
		{"&#" + strings.Repeat("0", 400) + "65;", "A"},
		{"&amp;lt;", "&lt;"},
		{"&lt;b&gt;", "<b>"},
		{"&#38;amp;", "&amp;"},
		{"a&amp;b&amp", "a&b&amp"},
		{"&", "&"},
		{"&;", "&;"},
		{"&&amp;&", "&&&"},
		{"&amp ;", "&amp ;"},
		{"& amp;", "& amp;"},
		{"&AMP;&Lt;&copy;&ampx;&am;", "&AMP;&Lt;&copy;&ampx;&am;"},
		{"&#;&#x;&#X;&#", "&#;&#x;&#X;&#"},
		{"&#a;&#6a;&#xg;&#x4g;", "&#a;&#6a;&#xg;&#x4g;"},
		{"&#-65;&#+65;&# 65;&#6_5;", "&#-65;&#+65;&# 65;&#6_5;"},
		{"&##65;&x41;&#x#41;&#xx41;", "&##65;&x41;&#x#41;&#xx41;"},
		{"&#65&#66;&am&amp;", "&#65B&am&"},
		{"&#\u0661;", "&#\u0661;"},
		{"&\xff;&amp;\xff", "&\xff;&\xff"},
	} {
		want := fmt.Sprintf("%q", c[1])
		reads(t, [][2]string{
			{c[0], want},
			{`<a b="` + c[0] + `">`, `a b=` + want + `()`},
			{`<a b='` + c[0] + `'>`, `a b=` + want + `()`},
		})
		if !strings.ContainsAny(c[0], " ") {
			reads(t, [][2]string{{`<a b=` + c[0] + `>`, `a b=` + want + `()`}})
		}
	}
	// They stand within one piece, and neither in comments nor in names.
	reads(t, [][2]string{
		{`&am<!>p;`, `"&amp;"`},
		{`<!--&amp;-->`, `!"&amp;"`},
		{`<a &#98;=c>`, `a()`},
		{`<&#98;>`, `"<b>"`},
	})
}

// P30: raw elements.
func TestRaw(t *testing.T) {
	reads(t, [][2]string{
		{`<style>a<b>&lt;<!--c--></style>d`, `style("a<b>&lt;<!--c-->") "d"`},
		{`<script>a</script>d`, `script("a") "d"`},
		{`<style></style>x`, `style() "x"`},
		{`<style>`, `style()`},
		{`<style>a`, `style("a")`},
		{`<STYLE a=b>c</Style>d`, `style a="b"("c") "d"`},
		{`<style/>a</style>`, `style("a")`},
		{`<style>a</style b="c>d">e`, `style("a") "d\">e"`},
		{`<style>a</style/>e`, `style("a") "e"`},
		{"<style>a</style\f>e", `style("a") "e"`},
		{"<style>a</style\v>e</style>", `style("a</style\v>e")`},
		{`<style>a</style`, `style("a")`},
		{`<style>a</style b`, `style("a")`},
		{`<style></style`, `style()`},
		{`<style>a</styl`, `style("a</styl")`},
		{`<style>a</styles>b</style>c`, `style("a</styles>b") "c"`},
		{`<style>a</style</style>b`, `style("a</style") "b"`},
		{`<style>a</script>b</style>c`, `style("a</script>b") "c"`},
		{`<script><script></script>b`, `script("<script>") "b"`},
		{`<style>a< /style></ style><</style>b`, `style("a< /style></ style><") "b"`},
		{"<style>a</\u017ftyle>b", "style(\"a</\u017ftyle>b\")"},
		{`<style>a</style>b<style>c`, `style("a") "b" style("c")`},
		{`<styles>a<b>`, `styles("a" b())`},
		{`</style>a<b>`, `"a" b()`},
		{`<b><style>a</b></style>c`, `b(style("a</b>") "c")`},
	})
}
