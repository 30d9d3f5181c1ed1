package fresh

import (
	"math"
	"strings"
	"testing"

	"casement/api"
)

// P162: work is counted since it was asked last, or since the page was opened.
func TestWorkIsCounted(t *testing.T) {
	p := open(t, "<div><p>a</p><p>b<b>c</b></p></div>")
	holdWorked(t, p, "Open", 0, 0)
	holdWork(t, p, "all looks", 4, 1)
	holdWorked(t, p, "Work", 0, 0)
	holdWork(t, p, "all looks once more", 0, 0)
	do(t, p.Sheet(1, "p{height:1px}"))
	seeAll(p)
	do(t, p.Sheet(1, "p{height:2px}"))
	seeAll(p)
	holdWorked(t, p, "two sheets", 8, 2)
}

// P162: work is done when a look asks for it, and each look asks for what it needs.
func TestWorkIsAsked(t *testing.T) {
	for name, look := range map[string]func(p *Page){
		"Frame":   func(p *Page) { p.Frame() },
		"Rect":    func(p *Page) { p.Rect(1) },
		"Picture": func(p *Page) { p.Picture() },
		"At":      func(p *Page) { p.At(0, 0) },
		"Point":   func(p *Page) { p.Point(0, 0) },
	} {
		p := open(t, "<div><p>a</p><p hidden>b<b>c</b></p></div><p>d</p>", "[hidden]{display:none}") // 4: p, 5: b, 6: b, 7: c
		look(p)
		holdWorked(t, p, name, 4, 1)
		look(p)
		holdWorked(t, p, name+", again", 0, 0)
		do(t, p.Unset(4, "hidden"), p.Say(5, "bb"), p.Put(1, 4, 0))
		p.Resize(30, 30)
		p.Undo()
		holdWorked(t, p, name+", behind changes", 0, 0)
		if _, err := p.Markup(); err != nil {
			t.Error(err)
		}
		holdWorked(t, p, "Markup", 0, 0)
		look(p)
		if s, f := p.Work(); s < 2 || s > 4 || f != 1 {
			t.Errorf("%s, behind changes: %d styles, %d frames", name, s, f)
		}
	}
}

// P162: a style alone needs no frames, and no styles but those that it hangs on.
func TestStyleAlone(t *testing.T) {
	p := open(t, "<div><p>a</p><p>b<b>c</b><i></i></p></div>") // 2: p, 4: p, 6: b, 8: i
	p.Style(3)
	p.Style(0)
	p.Style(99)
	holdWorked(t, p, "no elements", 0, 0)
	p.Style(6)
	holdWorked(t, p, "b", 3, 0)
	p.Style(4)
	p.Style(6)
	holdWorked(t, p, "p and b", 0, 0)
	p.Style(8)
	holdWorked(t, p, "i", 1, 0)
	p.Frame()
	holdWorked(t, p, "frames", 1, 1)
	do(t, p.Set(4, "class", "x"))
	p.Style(2)
	holdWorked(t, p, "what stands ahead", 0, 0)
	p.Style(8)
	holdWorked(t, p, "what lies in it", 2, 0)
	p.Frame()
	holdWorked(t, p, "what is left", 1, 1)
}

// idle: a page of which nothing hangs on some changes: 1: div, 2: p, 3: x, 4: a comment, 5: p, 6: b, 7: y, 8: a comment, 9: z, 10: p.
const idle = "<div title=t><p class=a>x</p><!--c--><p><b>y</b></p></div><!--d-->z<p>"

// idleRules: attributes that stand in heads that are none, or in values, are not asked for.
const idleRules = "p:nth-child(2n)+p,[lang]~b:not(.x){width:9px;content:'[title]'}[title=]{color:red}@media (min-width:9999px){:first-child{color:red}}"

// P162: changes behind which nothing is worked out.
func TestNoWork(t *testing.T) {
	for _, rules := range []string{"", ":empty{height:3px}", "p:has(b){height:3px}", ":has(:empty)~p{height:3px}"} {
		p := settled(t, idle, idleRules, rules)
		hold := func(what string, errs ...error) {
			t.Helper()
			do(t, errs...)
			holdWork(t, p, rules+": "+what, 0, 0)
		}
		hold("Set", p.Set(1, "title", "u"), p.Set(2, "data", "x"), p.Set(10, "title", "x"), p.Set(6, "classes", "a"), p.Set(6, "langs", "a"))
		hold("Unset", p.Unset(1, "title"), p.Unset(10, "title"))
		p.Undo()
		hold("Undo")
		hold("Say", p.Say(4, ""), p.Say(8, "e"))
		hold("Take of a comment", p.Take(4))
		hold("Put of a comment", p.Put(10, 4, 0))
		hold("Put of a comment in the root", p.Put(1, 4, 0))
		hold("Put of a comment ahead of the root", p.Put(0, 4, 0), p.Put(6, 8, 0))
		p.Undo()
		hold("Undo of Put")
		p.Point(0, 0)
		hold("Point")
		p.Point(-1, -1)
		hold("Point at nothing")
		p.Focus(2)
		hold("Focus")
		p.Focus(-1)
		hold("no Focus")
		p.Resize(100, 80)
		hold("Resize")
		hold("Sheet", p.Sheet(0, base), p.Sheet(2, rules))
		hold("Sheet, otherwise written", p.Sheet(0, "/**/"+base+" "))
		id := made(t)(p.Element("p"))
		hold("Element", p.Set(id, "title", "x"))
		hold("Text", p.Put(id, made(t)(p.Text("x")), 0), p.Set(id, "class", "a"))
	}
}

// P162: a head that asks for an attribute in another one's selector does.
func TestAskedAttributes(t *testing.T) {
	for _, head := range []string{"[title]", "p[Title=x]", ":not([title])", "a,b:is(c [title] d)", "p:has(b[title])", "@media print{[title]", "@media (max-width:1px){[title]"} {
		p := settled(t, idle, head+"{background:red}")
		do(t, p.Set(2, "title", "x"), p.Set(1, "title", "x"))
		seeAll(p)
		if s, f := p.Work(); strings.HasPrefix(head, "@") {
			continue // (Here work may be done or not.)
		} else if s == 0 || f == 0 {
			t.Errorf("%s: %d styles, %d frames", head, s, f)
		}
	}
}

// P160, P162: the base's selectors ask as others do.
func TestAskedByBase(t *testing.T) {
	for head, change := range map[string]func(p *Page) error{
		"[lang=x]":       func(p *Page) error { return p.Set(2, "lang", "x") },
		"p:focus":        func(p *Page) error { p.Focus(2); return nil },
		"div p:hover":    func(p *Page) error { p.Point(0, 0); return nil },
		"p:has(.y)":      func(p *Page) error { return p.Set(4, "class", "y") },
		"p:not(:has(b))": func(p *Page) error { return p.Take(4) },
		"p:empty":        func(p *Page) error { do(t, p.Take(3)); return p.Take(4) },
	} {
		p, err := Open("<div><p>a<b></b></p></div>", base+head+"{background:red}", nil, 100, 80) // 2: p, 3: a, 4: b
		do(t, err)
		holdReds(t, p)
		do(t, change(p))
		holdReds(t, p, 2)
	}
}

// P162: a size is the same also where both are beyond a bound.
func TestNoWorkAtBounds(t *testing.T) {
	p := settled(t, idle, idleRules)
	for _, c := range [][4]int{{4096, 0, 9999, -1}, {0, 4096, -5, math.MaxInt}} {
		p.Resize(c[0], c[1])
		seeAll(p)
		if s, f := p.Work(); s != 0 || f != 1 {
			t.Errorf("%v: %d styles, %d frames", c, s, f)
		}
		p.Resize(c[2], c[3])
		holdWork(t, p, "the same size", 0, 0)
	}
}

// Another size asks for styles where another media text applies, and for frames.
func TestWorkOfSizes(t *testing.T) {
	p := settled(t, "<div><p>a</p></div>", "@media (min-width:50px){p{height:1px}}@media (max-height:9px){b{height:1px}}")
	for _, c := range []struct{ width, height, styles int }{{51, 80, 0}, {50, 10, 0}, {49, 10, 2}, {3, 10, 0}, {3, 9, 2}, {50, 10, 2}} {
		p.Resize(c.width, c.height)
		seeAll(p)
		if s, f := p.Work(); s != c.styles || f != 1 {
			t.Errorf("%d, %d: %d styles, %d frames", c.width, c.height, s, f)
		}
	}
}

// P162: where selectors ask for hover, a Focus asks for no work, and the other way round.
func TestNoWorkOfStates(t *testing.T) {
	p := settled(t, idle, "p:hover{height:5px}")
	p.Focus(2)
	holdWork(t, p, "Focus", 0, 0)
	p.Point(0, 0)
	seeAll(p)
	if s, f := p.Work(); s == 0 || f == 0 {
		t.Error("Point asks for no work")
	}
	p.Point(0, 0)
	holdWork(t, p, "Point at the same", 0, 0)
	p = settled(t, idle, "b:not(:focus){height:5px}")
	p.Point(0, 0)
	holdWork(t, p, "Point", 0, 0)
	p.Focus(6)
	seeAll(p)
	if s, f := p.Work(); s == 0 || f == 0 {
		t.Error("Focus asks for no work")
	}
	p.Focus(6)
	holdWork(t, p, "the same Focus", 0, 0)
}

// P162: a change with an error asks for no work.
func TestNoWorkOfErrors(t *testing.T) {
	p := settled(t, idle, idleRules, ":hover,:focus,:empty,:has(b){color:red}")
	for _, err := range []error{
		p.Put(2, 1, 0), p.Put(99, 1, 0), p.Put(1, 2, 9), p.Take(0), p.Take(99), p.Set(3, "class", "x"), p.Set(99, "class", "x"), p.Set(2, "X", "x"),
		p.Set(2, "class", strings.Repeat("x", api.MaxText+1)), p.Unset(2, "id"), p.Unset(99, "class"), p.Say(1, "x"), p.Say(3, strings.Repeat("x", api.MaxText+1)),
		p.Sheet(-1, "*{color:red}"), p.Sheet(4, "*{color:red}"), p.Sheet(1, tooMany(0)),
	} {
		if err == nil {
			t.Error("no error")
		}
	}
	holdWork(t, p, "errors", 0, 0)
	if p.Undo() {
		t.Error("Undo")
	}
	holdWork(t, p, "nothing to undo", 0, 0)
}

// wide: 1: div; 2: p with 3: b, 4: b and 5: i in it; 6: p with 7: b, 8: b, 9: i; 10: p with 11: b, 12: b, 13: i.
const wide = "<div><p><b></b><b><i></i></b></p><p><b></b><b><i></i></b></p><p><b></b><b><i></i></b></p></div>"

// wideRules look at what stands ahead of, behind and around elements.
const wideRules = ".x,[lang],:nth-last-child(2n)+*,:last-of-type~*,:not(.x *)>:only-child,:is([lang]~p b){height:5px;--y:1}i{width:var(--y)}"

// P162: behind Set, Unset, Put and Take at most what lies in the parents is worked out.
func TestLittleWork(t *testing.T) {
	for _, c := range []struct {
		what   string
		change func(p *Page) error
		most   int
	}{
		{"Set of a class", func(p *Page) error { return p.Set(6, "class", "x") }, 12},
		{"Set of a style", func(p *Page) error { return p.Set(7, "style", "height:3px") }, 3},
		{"Set of an id", func(p *Page) error { return p.Set(8, "id", "x") }, 3},
		{"Set of an attribute", func(p *Page) error { return p.Set(13, "lang", "x") }, 2},
		{"Put within a parent", func(p *Page) error { return p.Put(2, 4, 0) }, 3},
		{"Put into another one", func(p *Page) error { return p.Put(6, 4, 0) }, 6},
		{"Put into one around", func(p *Page) error { return p.Put(2, 5, 0) }, 4},
		{"Put into one that lies in it", func(p *Page) error { return p.Put(4, 3, 0) }, 3},
		{"Take", func(p *Page) error { return p.Take(8) }, 1},
		{"Take of the only one", func(p *Page) error { return p.Take(9) }, 0},
	} {
		p := settled(t, wide, wideRules)
		do(t, c.change(p))
		seeAll(p)
		if s, f := p.Work(); s > c.most || f > 1 {
			t.Errorf("%s: %d styles, %d frames", c.what, s, f)
		}
		p.Undo()
		seeAll(p)
		if s, f := p.Work(); s > c.most+2 || f > 1 {
			t.Errorf("%s, undone: %d styles, %d frames", c.what, s, f)
		}
	}
}

// P162: another text asks for no style, also where selectors ask for what lies in an element.
func TestWorkOfSay(t *testing.T) {
	for _, rules := range []string{"", wideRules, "div:has(p),:has(:hover)~*{height:50px}"} {
		p := settled(t, "<div>a<p>b</p></div>", rules) // 2: a, 4: b
		do(t, p.Say(4, ""))
		holdPlaces(t, p, "4:none")
		do(t, p.Say(4, "mmm"))
		holdPlaces(t, p, "4:0,10,24,10")
		do(t, p.Say(2, " "))
		seeAll(p)
		holdWorked(t, p, rules, 0, 3)
		out := made(t)(p.Text("x"))
		do(t, p.Say(out, "y"), p.Say(2, "z"), p.Say(2, " "))
		holdWork(t, p, "what lies in no page", 0, 0)
		p = settled(t, "a<div></div>b", rules)
		do(t, p.Say(1, "b"), p.Say(3, ""))
		holdWork(t, p, "what lies beside the root", 0, 0)
	}
}

// P162: where selectors ask for what lies in elements, all is as it is now all the same.
func TestWorkAbove(t *testing.T) {
	p := settled(t, "<div><p><b></b></p><p></p></div>", "div:has(.x),:has(.x)+p,:empty{background:red}") // 2: p, 3: b, 4: p
	holdReds(t, p, 3, 4)
	do(t, p.Set(3, "class", "x"))
	holdReds(t, p, 1, 3, 4)
	id := made(t)(p.Text(""))
	do(t, p.Put(4, id, 0))
	holdReds(t, p, 1, 3, 4)
	do(t, p.Put(3, id, 0))
	holdReds(t, p, 1, 4)
	do(t, p.Take(3))
	holdReds(t, p, 2, 4)
	do(t, p.Put(4, 3, 0))
	holdReds(t, p, 1, 2)
}

// P162: an ID that was undone is another node's now, of which all is worked out.
func TestWorkOfUndone(t *testing.T) {
	p := open(t, "<div><p>a</p></div>", "b{background:red}i{height:1px}div>:last-of-type{margin-left:2px}")
	id := made(t)(p.Element("b"))
	do(t, p.Put(1, id, 0))
	holdReds(t, p, id)
	holdPlaces(t, p, "4:2,0,0,10")
	p.Undo()
	p.Undo()
	again := made(t)(p.Element("i"))
	do(t, p.Put(1, again, 0))
	holdReds(t, p)
	p.Undo()
	p.Undo()
	if word := made(t)(p.Text("m")); word != id || again != id {
		t.Error(word, again)
	}
	do(t, p.Put(1, id, 0))
	holdPlaces(t, p, "4:0,0,8,10 2:2,10,98,10")
	if _, ok := p.Style(id); ok {
		t.Error("a text has a style")
	}
}
