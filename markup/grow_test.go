package markup

import (
	"fmt"
	"slices"
	"strings"
	"testing"

	"casement/api"
)

// P31: what comes stands in the innermost open element; texts are joined.
func TestInnermost(t *testing.T) {
	reads(t, [][2]string{
		{`a<b>c<i>d</i>e</b>f`, `"a" b("c" i("d") "e") "f"`},
		{`<b><i></b>x</i>y`, `b(i()) "xy"`},
		{`<b><i><u></b>x`, `b(i(u())) "x"`},
		{`<b><b>x</b>y</b>z</b>w`, `b(b("x") "y") "zw"`},
		{`<b>x</i>y`, `b("xy")`},
		{`</b>x`, `"x"`},
		{`a</b>b<!c>d<?e>f<g.h>i</j.k>l`, `"abdfil"`},
		{`a<b></b>c`, `"a" b() "c"`},
		{`a<!--b-->c`, `"a" !"b" "c"`},
		{`a<br>c`, `"a" br() "c"`},
		{`<b>a</b>c`, `b("a") "c"`},
		{`<b>a<!></b>c`, `b("a") "c"`},
	})
}

// P31: void elements are never open.
func TestVoid(t *testing.T) {
	for _, tag := range []string{"br", "hr", "img", "input", "link", "meta", "wbr"} {
		reads(t, [][2]string{
			{"<b><" + tag + " c=d>x</" + tag + ">y", `b(` + tag + ` c="d"() "xy")`},
			{"<" + tag + "/><" + tag + ">", tag + `() ` + tag + `()`},
		})
	}
	reads(t, [][2]string{{`<brr>x`, `brr("x")`}, {`<area>x`, `area("x")`}})
}

// P31: each line of the table, with each tag of it.
func TestTable(t *testing.T) {
	const blocks = "div p ul ol dl table h1 h2 h3 pre section form hr"
	for _, line := range [][3]string{
		{"li", "li", "ul ol"},
		{"dt dd", "dt dd", "dl"},
		{"option", "option", "select"},
		{"tr", "tr", "table"},
		{"td th", "td th", "tr table"},
		{blocks, "p", "td th li div section button"},
	} {
		for _, tag := range strings.Fields(line[0]) {
			for _, closed := range strings.Fields(line[1]) {
				x := tag + "()"
				reads(t, [][2]string{
					{fmt.Sprintf("<%s>a<%s>", closed, tag), fmt.Sprintf(`%s("a") %s`, closed, x)},
					{fmt.Sprintf("<%s><b>a<i><%s>", closed, tag), fmt.Sprintf(`%s(b("a" i())) %s`, closed, x)},
					{fmt.Sprintf("<b><%s>a<%s>", closed, tag), fmt.Sprintf(`b(%s("a") %s)`, closed, x)},
				})
				for _, wall := range strings.Fields(line[2]) {
					reads(t, [][2]string{{fmt.Sprintf("<%s><b><%s><i><%s>", wall, closed, tag), fmt.Sprintf("%s(b(%s(i()) %s))", wall, closed, x)}})
					// A wall that is itself a block closes the p around it: no p is then left outside.
					if !slices.Contains(strings.Fields(blocks), wall) || closed != "p" {
						reads(t, [][2]string{{fmt.Sprintf("<%s><b><%s><i><%s>", closed, wall, tag), fmt.Sprintf("%s(b(%s(i(%s))))", closed, wall, x)}})
					}
				}
			}
		}
	}
}

// P31: what the table does not say is not done.
func TestTableSaysNoMore(t *testing.T) {
	reads(t, [][2]string{
		{`<p><b><p>x`, `p(b()) p("x")`},
		{`<p><span>x`, `p(span("x"))`},
		{`<p><h4>x`, `p(h4("x"))`},
		{`<p><li>x`, `p(li("x"))`},
		{`<p><br>x`, `p(br() "x")`},
		{`<p><hr>x`, `p() hr() "x"`},
		{`<div><div>x`, `div(div("x"))`},
		{`<h1><h1>x`, `h1(h1("x"))`},
		{`<p><section><p>x`, `p() section(p("x"))`},
		{`<p><button><p>x<div>y`, `p(button(p("x") div("y")))`},
		{`<li><p><li>x`, `li(p()) li("x")`},
		{`<li><div><li>x`, `li(div()) li("x")`},
		{`<ul><li><ol><li>x<li>y</ol><li>z`, `ul(li(ol(li("x") li("y"))) li("z"))`},
		{`<td><tr><td>x`, `td(tr(td("x")))`},
		{`<tr><td><tr>x`, `tr(td()) tr("x")`},
		{`<tr><td><table><tr>x`, `tr(td(table(tr("x"))))`},
		{`<td><th>x<td>y`, `td() th("x") td("y")`},
		{`<dt><dd><dt>x`, `dt() dd() dt("x")`},
		{`<dt><b><dl><dd>x<dt>y`, `dt(b(dl(dd("x") dt("y"))))`},
		{`<option><b><option>x`, `option(b()) option("x")`},
		{`<option><select><option>x`, `option(select(option("x")))`},
		// Only one is closed, however many there are.
		{`<p><button><p></button><div>x`, `p(button(p())) div("x")`},
		{`<p><li><p><b><hr>x`, `p(li(p(b()) hr() "x"))`},
	})
}

// P31: a tag that is no name closes nothing; one that closes does so ahead of all else.
func TestStartTagThatIsNoName(t *testing.T) {
	reads(t, [][2]string{
		{`<p><p.>x`, `p("x")`},
		{`<p>a<P b=c>x`, `p("a") p b="c"("x")`},
		{`<p>a<p b`, `p("a")`},
	})
}

// deep: so many elements, one within the other, as show tells them.
func deep(n int, tag, inner string) string {
	return strings.Repeat(tag+"(", n) + inner + strings.Repeat(")", n)
}

// P31: no more than MaxDeep elements are open.
func TestMaxDeep(t *testing.T) {
	all := strings.Repeat("<b>", api.MaxDeep)
	rest := strings.Repeat("<b>", api.MaxDeep-1)
	reads(t, [][2]string{
		{all + "x", deep(api.MaxDeep, "b", `"x"`)},
		{all + "<i>x", deep(api.MaxDeep, "b", `i() "x"`)},
		{all + "<i a=b><u><!--c-->x", deep(api.MaxDeep, "b", `i a="b"() u() !"c" "x"`)},
		{all + "<i>x</i>y", deep(api.MaxDeep, "b", `i() "xy"`)},
		{all + "<b>x</b>y", deep(api.MaxDeep-1, "b", `b(b() "x") "y"`)},
		{all + "</b><i>x", deep(api.MaxDeep-1, "b", `b() i("x")`)},
		{rest + "<i>x</i><u>y", deep(api.MaxDeep-1, "b", `i("x") u("y")`)},
		// Closing comes first, and makes room.
		{rest + "<p>x<p>y", deep(api.MaxDeep-1, "b", `p("x") p("y")`)},
		{all + "<p>x<p>y", deep(api.MaxDeep, "b", `p() "x" p() "y"`)},
		{rest + "<p>x<hr>y", deep(api.MaxDeep-1, "b", `p("x") hr() "y"`)},
		// A raw element that is not open has its text behind it.
		{all + "<style>a<i>&lt;</style>&lt;", deep(api.MaxDeep, "b", `style() "a<i>&lt;<"`)},
		{all + "x<style></style>y", deep(api.MaxDeep, "b", `"x" style() "y"`)},
	})
}

// P31: bytes are bounded.
func TestReadTooLong(t *testing.T) {
	most := strings.Repeat("x", api.MaxText)
	if d := read(t, most); d.Words(1) != most {
		t.Error("the longest text")
	}
	fails(t, most+"x", api.MaxText)
	fails(t, most+most, api.MaxText)
	fails(t, strings.Repeat("<br>", api.MaxText), api.MaxText)
	value := strings.Repeat("v", api.MaxText-len(`<a b="">`))
	if d := read(t, `<a b="`+value+`">`); d.Attrs(1)[0].Value != value {
		t.Error("the longest value")
	}
}

// P31: nodes are bounded; the place is where the piece begins that makes one too many.
func TestReadTooMany(t *testing.T) {
	full := strings.Repeat("<b></b>", api.MaxNodes-1)
	for _, s := range []string{"", "</b>", "<!x>", "<?x", "<a.>", "<b", "</b", "<b c='>"} {
		if d := read(t, full+s); d.Size() != api.MaxNodes {
			t.Errorf("%q: %d nodes", s, d.Size())
		}
	}
	for _, s := range []string{"x", "<i>", "<br>", "<!--x", "<", "&amp;", "<style>x", "x<i>", "<p c=d>x"} {
		fails(t, full+s, len(full))
		fails(t, full+"<!x></i>"+s, len(full)+8)
	}
	// A text that is joined makes no node; a raw text begins behind its start tag.
	almost := full[len("<b></b>"):]
	read(t, almost+"x</b>y<!>z< 1")
	fails(t, almost+"x</b>y<br>z", len(almost)+6)
	fails(t, almost+"x< 1 <br>", len(almost)+5)
	read(t, almost+"<style></style>")
	fails(t, almost+"<style>x</style>", len(almost)+7)
	fails(t, almost+"<i>x < 2 & y", len(almost)+3)
	fails(t, almost+"<i> <p>", len(almost)+3)
}

// P2, P4: each tree is its own.
func TestReadTwice(t *testing.T) {
	const text = `<a b=c>d</a><!--e-->`
	d, e := read(t, text), read(t, text)
	d.Set(1, "b", "x")
	d.Say(2, "y")
	d.Take(3)
	if got := show(e, 0); got != `a b="c"("d") !"e"` {
		t.Error(got)
	}
	if got := show(read(t, text), 0); got != show(e, 0) {
		t.Error(got)
	}
	if id, err := e.Element("p"); id != 4 || err != nil {
		t.Error("the next node", id, err)
	}
	if !e.Undo() || e.Undo() {
		t.Error("a change after reading is undone, and no other")
	}
}
