package fresh

import (
	"fmt"
	"math"
	"math/rand"
	"regexp"
	"slices"
	"strings"
	"testing"

	"casement/api"
	"casement/boxes"
	"casement/cascade"
	"casement/choose"
	"casement/events"
	"casement/frame"
	"casement/hit"
	"casement/markup"
	"casement/paint"
	"casement/plain"
	"casement/tree"
)

// A second telling: a page of which nothing is kept but its tree, its sheets' texts, its size and its state. Each look makes all of it anew, and how much may be done is told from the change alone.
type telling struct {
	*tree.Tree
	sheets        []string
	width, height int
	state         choose.State
}

// bound of a page's side.
func bound(n int) int {
	switch {
	case n < 0:
		return 0
	case n > 4096:
		return 4096
	}
	return n
}

func (m *telling) root() int {
	for _, id := range m.Kids(0) {
		if m.Kind(id) == api.Element {
			return id
		}
	}
	return -1
}

func (m *telling) sources() ([]cascade.Source, cascade.View) {
	l, _ := plain.Sources(m.sheets[0], m.sheets[1:])
	return l, cascade.View{Width: m.width * api.Unit, Height: m.height * api.Unit, State: m.state}
}

func (m *telling) frame() *frame.Frame {
	l, v := m.sources()
	return frame.Lay(boxes.Make(m.Tree, m.root(), l, v), v.Width, v.Height)
}

// told: all looks of the second telling, as a text.
func (m *telling) told() string {
	text, err := markup.Write(m.Tree, 0)
	f := m.frame()
	text += fmt.Sprint(err, m.width, m.height) + told(f) + fmt.Sprint(paint.Picture(paint.Marks(f), m.width, m.height))
	l, v := m.sources()
	ids, styles := cascade.Styles(m.Tree, m.root(), l, v)
	for id := -1; id <= m.Size(); id++ {
		var s cascade.Style
		at := slices.Index(ids, id)
		if at >= 0 {
			s = styles[at]
		}
		r, has := hit.Around(f, id)
		text += fmt.Sprint(id, s, at >= 0, r, has, hit.At(f, id*300, id*200)) + "\n"
	}
	return text
}

// heads of all sheets that are selectors, as texts.
func (m *telling) heads() string {
	var heads []string
	l, _ := m.sources()
	for _, s := range l {
		for _, r := range s.Sheet.Rules {
			if list, err := choose.Read(r.Head); err == nil {
				heads = append(heads, list.Text())
			}
		}
	}
	return strings.Join(heads, ", ")
}

// asks: some selector has something.
func (m *telling) asks(pattern string) bool {
	return regexp.MustCompile(pattern).MatchString(m.heads())
}

// mayMind: a selector, or a style, may ask for an attribute.
func (m *telling) mayMind(name string) bool {
	return name == "style" || name == "id" || name == "class" || m.asks(`\[`+name+`[\]=~|^$*]`)
}

// change of a page and of its second telling, each of which tells what it answered.
type change struct {
	name         string
	page, second func() string
	most         func() int // so many styles may be worked out behind it; -1: it is not said
	lays         bool       // it may be laid behind it
}

// said: what a call answered.
func said(list ...any) string { return fmt.Sprint(list...) }

// chance makes pages and changes.
type chance struct{ *rand.Rand }

func (c chance) of(list ...string) string { return list[c.Intn(len(list))] }

func (c chance) compound(has bool) string {
	simples := []string{".x", ".y", "#x", "[k]", "[k=x]", "[l]", ":first-child", ":last-child", ":only-child", ":last-of-type", ":nth-child(2n)", ":nth-last-child(2)", ":nth-of-type(2)", ":root"}
	if c.Intn(3) == 0 {
		simples = append(simples, ":hover", ":focus")
	}
	if has {
		simples = append(simples, ":empty", ":has(.x)", ":has(:empty)", ":has(b+b)", ":has([k])")
	}
	text := c.of("", "*", "b", "p", "div")
	for text == "" || c.Intn(3) == 0 {
		text += c.of(simples...)
	}
	if c.Intn(6) == 0 {
		text += c.of(":not(", ":is(") + c.complex(has) + ")"
	}
	return text
}

func (c chance) complex(has bool) string {
	text := c.compound(has)
	for c.Intn(2) == 0 {
		text += c.of(" ", ">", "+", "~") + c.compound(has)
	}
	return text
}

func (c chance) declarations() string {
	var out strings.Builder
	for range 1 + c.Intn(2) {
		out.WriteString(c.of("width:20px", "height:5px", "margin-left:3px", "background:red", "color:blue", "float:left", "position:relative", "left:7px",
			"display:none", "display:flex", "display:contents", "display:inline-block", "visibility:hidden", "overflow:hidden", "content:'m'", "display:list-item",
			"counter-increment:n 2", "content:counter(n)", "font-size:1.5em", "--v:4px", "--v:7px", "padding:var(--v)", "border-width:var(--v,1px)", "height:50%", "width:inherit"))
		out.WriteString(c.of(";", ";", ";", "!important;"))
	}
	return out.String()
}

// sheet of some rules.
func (c chance) sheet(has bool) string {
	var out strings.Builder
	for range c.Intn(4) {
		rule := c.complex(has) + "{" + c.declarations() + "}"
		switch c.Intn(12) {
		case 0:
			rule = "@media(min-width:50px){" + rule + "}"
		case 1:
			rule = "[m]>{" + c.declarations() + "}" + rule
		case 2:
			rule = c.complex(has) + "," + rule
		}
		out.WriteString(rule)
	}
	return out.String()
}

// markup with an element.
func (c chance) markup() string {
	var out strings.Builder
	out.WriteString(c.of("", "", "x", "<!--c-->") + "<div>")
	for range 2 + c.Intn(14) {
		out.WriteString(c.of("<p>", "<p class=x>", "<b>", "<b k=x>", "<b class='y x'>", "</b>", "</b>", "</p>", "a mm", "i ", "<!--c-->", "<div id=x>", "</div>", "<br>", "<b l>"))
	}
	return out.String()
}

// pages: one and its second telling.
func (c chance) pages(t *testing.T, has bool) (*Page, *telling) {
	t.Helper()
	m := &telling{width: c.Intn(70), height: c.Intn(70)}
	text := c.markup()
	m.Tree, _ = markup.Read(text)
	m.sheets = []string{base + c.sheet(has), c.sheet(has), c.sheet(has)}
	p, err := Open(text, m.sheets[0], m.sheets[1:], m.width, m.height)
	if err != nil {
		t.Fatal(err)
	}
	return p, m
}

// id of a node, or of none.
func (c chance) id(m *telling) int { return c.Intn(m.Size()+1) - c.Intn(2)*c.Intn(2) }

// inside: how many elements lie in nodes, if each of them is an element of the root, or it; else -1: nothing is said of them. The nodes themselves do not count.
func (m *telling) inside(ids ...int) int {
	all := make(map[int]bool)
	for _, id := range ids {
		if !slices.Contains(m.Under(m.root()), id) {
			return -1
		}
		for _, in := range m.Under(id)[1:] {
			all[in] = m.Kind(in) == api.Element
		}
	}
	n := 0
	for _, is := range all {
		if is {
			n++
		}
	}
	return n
}

func nothing() int { return 0 }

func unsaid() int { return -1 }

// attribute that is set, or is there no more.
func (c chance) attribute(p *Page, m *telling) change {
	id, name, value := c.id(m), c.of("class", "class", "id", "style", "k", "l", "m", "title"), c.of("x", "y", "x y", "")
	if l := m.Attrs(id); len(l) > 0 && c.Intn(2) == 0 {
		name = l[c.Intn(len(l))].Name
	}
	if name == "style" {
		value = c.declarations()
	}
	x := change{name: fmt.Sprintf("Set(%d, %s, %s)", id, name, value), lays: true}
	x.page, x.second = func() string { return said(p.Set(id, name, value)) }, func() string { return said(m.Set(id, name, value)) }
	if c.Intn(3) == 0 {
		x.name = fmt.Sprintf("Unset(%d, %s)", id, name)
		x.page, x.second = func() string { return said(p.Unset(id, name)) }, func() string { return said(m.Unset(id, name)) }
	}
	x.most = func() int { return m.inside(m.Parent(id)) }
	if m.asks(`:(has\(|empty)`) {
		x.most = unsaid
	}
	if !m.mayMind(name) {
		x.most, x.lays = nothing, false
	}
	return x
}

// place of a node that is another one, or none.
func (c chance) place(p *Page, m *telling) change {
	parent, id := c.id(m), c.id(m)
	at := c.Intn(len(m.Kids(parent)) + 1)
	x := change{name: fmt.Sprintf("Put(%d, %d, %d)", parent, id, at), lays: true}
	x.page, x.second = func() string { return said(p.Put(parent, id, at)) }, func() string { return said(m.Put(parent, id, at)) }
	parents := []int{parent}
	if c.Intn(3) == 0 {
		x.name, parents = fmt.Sprintf("Take(%d)", id), nil
		x.page, x.second = func() string { return said(p.Take(id)) }, func() string { return said(m.Take(id)) }
	}
	if from := m.Parent(id); from >= 0 {
		parents = append(parents, from)
	}
	within := func() bool {
		return !slices.ContainsFunc(parents, func(id int) bool { return !slices.Contains(m.Under(m.root()), id) })
	}
	ahead := within()
	x.most = func() int {
		if !ahead || !within() {
			return -1
		}
		return m.inside(parents...)
	}
	if m.asks(`:(has\(|empty)`) {
		x.most = unsaid
	}
	if m.Kind(id) == api.Comment {
		x.most, x.lays = nothing, false
	}
	return x
}

// words that are others.
func (c chance) words(p *Page, m *telling) change {
	id, text := c.id(m), c.of("", "a", "mm ", " ")
	x := change{name: fmt.Sprintf("Say(%d, %q)", id, text), most: nothing, lays: m.Kind(id) == api.Text}
	x.page, x.second = func() string { return said(p.Say(id, text)) }, func() string { return said(m.Say(id, text)) }
	if m.asks(":empty") {
		x.most = unsaid
	}
	return x
}

// node that is new.
func (c chance) node(p *Page, m *telling) change {
	tag := c.of("b", "p", "div", "B")
	if c.Intn(3) == 0 {
		return change{"Text", func() string { return said(p.Text(tag)) }, func() string { return said(m.Text(tag)) }, nothing, false}
	}
	return change{"Element " + tag, func() string { return said(p.Element(tag)) }, func() string { return said(m.Element(tag)) }, nothing, false}
}

// sheet that is another one.
func (c chance) resheet(p *Page, m *telling, has bool) change {
	k, text := c.Intn(len(m.sheets)+2)-1, c.sheet(has)
	if k == len(m.sheets) && k > 3 {
		k++
	}
	if k >= 0 && k < len(m.sheets) && c.Intn(2) == 0 {
		text = m.sheets[k]
	}
	x := change{name: fmt.Sprintf("Sheet(%d, %s)", k, text), most: unsaid, lays: true}
	x.page = func() string { return said(p.Sheet(k, text)) }
	if k < 0 || k > len(m.sheets) {
		x.second = func() string { return said(api.ErrPlace) }
		x.most, x.lays = nothing, false
		return x
	}
	if k < len(m.sheets) && m.sheets[k] == text {
		x.most, x.lays = nothing, false
	}
	x.second = func() string {
		if k == len(m.sheets) {
			m.sheets = append(m.sheets, "")
		}
		m.sheets[k] = text
		return said(nil)
	}
	return x
}

// size that is another one.
func (c chance) size(p *Page, m *telling) change {
	width, height := c.Intn(80)-5, c.Intn(80)-5
	if c.Intn(2) == 0 {
		width, height = m.width, m.height
	}
	same := bound(width) == m.width && bound(height) == m.height
	x := change{name: fmt.Sprintf("Resize(%d, %d)", width, height), most: unsaid, lays: !same}
	x.page = func() string { p.Resize(width, height); return "" }
	x.second = func() string { m.width, m.height = bound(width), bound(height); return "" }
	if same {
		x.most = nothing
	}
	return x
}

// state that is another one.
func (c chance) restate(p *Page, m *telling) change {
	if id := c.id(m); c.Intn(2) == 0 {
		x := change{name: fmt.Sprintf("Focus(%d)", id), most: nothing, lays: m.asks(":focus")}
		if x.lays {
			x.most = unsaid
		}
		x.page = func() string { p.Focus(id); return "" }
		x.second = func() string {
			m.state.Focus = slices.DeleteFunc([]int{id}, func(id int) bool { return m.Kind(id) != api.Element })
			return ""
		}
		return x
	}
	at, y := (c.Intn(60)-3)*api.Unit, (c.Intn(40)-3)*api.Unit
	x := change{name: fmt.Sprintf("Point(%d, %d)", at, y), most: nothing, lays: m.asks(":hover")}
	if x.lays {
		x.most = unsaid
	}
	x.page = func() string { return said(p.Point(at, y)) }
	x.second = func() string {
		id := hit.At(m.frame(), at, y)
		m.state.Hover = events.Hover(m.Tree, id)
		return said(id)
	}
	return x
}

func (c chance) change(p *Page, m *telling, has bool) change {
	switch c.Intn(16) {
	case 0:
		return c.node(p, m)
	case 1:
		return c.words(p, m)
	case 2:
		return c.size(p, m)
	case 3:
		return c.resheet(p, m, has)
	case 4, 5:
		return c.restate(p, m)
	case 6, 7:
		return change{"Undo", func() string { return said(p.Undo()) }, func() string { return said(m.Undo()) }, unsaid, true}
	case 8, 9, 10, 11:
		return c.place(p, m)
	}
	return c.attribute(p, m)
}

// holdLooks of a page.
func holdLooks(t *testing.T, p *Page, m *telling, log []string) {
	t.Helper()
	if got, want := allTold(p), m.told(); got != want {
		t.Fatalf("%s:\n%s\nwant\n%s", strings.Join(log, "\n"), got, want)
	}
}

// hold a page made by chance, and so many changes of it, against the second telling.
func (c chance) hold(t *testing.T, changes int) {
	t.Helper()
	has := c.Intn(3) == 0
	p, m := c.pages(t, has)
	text, _ := markup.Write(m.Tree, 0)
	log := []string{text, strings.Join(m.sheets, "\n")}
	for range changes {
		settled := c.Intn(3) > 0
		if settled {
			seeAll(p)
			p.Work()
		}
		x := c.change(p, m, has)
		log = append(log, x.name)
		got, want := x.page(), x.second()
		if got != want {
			t.Fatalf("%s: %s, want %s", strings.Join(log, "\n"), got, want)
		}
		if c.Intn(3) == 0 && !settled {
			continue
		}
		if c.Intn(3) == 0 {
			p.Style(c.id(m))
		}
		holdLooks(t, p, m, log)
		styles, frames := p.Work()
		if !settled {
			continue
		}
		most := x.most()
		if strings.Contains(want, "casement: ") {
			most, x.lays = 0, false
		}
		if most >= 0 && styles > most || frames > 1 || !x.lays && frames > 0 {
			t.Fatalf("%s: %d styles, %d frames, want at most %d, %v", strings.Join(log, "\n"), styles, frames, most, x.lays)
		}
	}
}

// P160 to P162: pages made by chance, and changes of them, are what the second telling says.
func TestModel(t *testing.T) {
	c := chance{rand.New(rand.NewSource(16))}
	for range 160 {
		c.hold(t, 25)
	}
}

func FuzzFresh(f *testing.F) {
	f.Add(int64(1))
	f.Fuzz(func(t *testing.T, seed int64) { chance{rand.New(rand.NewSource(seed))}.hold(t, 40) })
}

// P1: all ends of a page as deep and as full as can be, with long sheets, whatever is changed.
func TestMany(t *testing.T) {
	heads := []string{"*", "b b", "b:nth-last-child(1)", "b>b:not(.x b b)", ":hover", ":focus", ":has(.y)", "b:empty", "[k] b"}
	var sheet strings.Builder
	for at := range api.MaxRules {
		fmt.Fprintf(&sheet, "%s{--v%d:var(--v%d,%d) x;height:%dpx}", heads[at%len(heads)], at, at+1, at, at)
	}
	p := open(t, "<b>", sheet.String(), sheet.String())
	last := 1
	for {
		id, err := p.Element("b")
		if err != nil {
			break
		}
		do(t, p.Put(last, id, 0))
		last = id
	}
	seeAll(p)
	for _, n := range []int{math.MinInt, -1, 0, 1, math.MaxInt} {
		p.Put(n, last, n)
		p.Put(last, n, n)
		p.Take(n)
		p.Set(n, "k", "")
		p.Unset(n, "k")
		p.Say(n, "")
		p.Sheet(n, "")
		p.Resize(n, n)
		p.Point(n, n)
		p.Focus(n)
		p.Style(n)
		p.Rect(n)
		p.At(n, n)
	}
	do(t, p.Set(last, "class", "y"), p.Put(1, last, 0))
	for p.Undo() {
	}
	seeAll(p)
	if got := p.tree.Size(); got != 2 {
		t.Error(got)
	}
}
