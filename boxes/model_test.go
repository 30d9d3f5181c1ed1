package boxes

import (
	"fmt"
	"math/rand"
	"regexp"
	"slices"
	"strconv"
	"strings"
	"testing"

	"casement/api"
	"casement/cascade"
	"casement/markup"
	"casement/sheet"
	"casement/tree"
)

// A second telling of boxes, from the outside inwards, right as texts: each number of a counter is worked out from all elements ahead, whether a part of a line is a block is asked of all that lies in it, and groups are found by patterns. (What Styles says is taken from it.)

// told: a style as a text.
func told(s cascade.Style) string { return fmt.Sprintf("%+v %+v", s.V, s.Vars) }

// firsts: the first values.
func firsts() []api.Value {
	d := tree.New()
	outer, _ := d.Element("a")
	inner, _ := d.Element("a")
	d.Put(outer, inner, 0)
	_, styles := cascade.Styles(d, outer, nil, cascade.View{})
	return styles[1].V
}

// nameless: the style of a box of no node in a box of that style.
func nameless(parent *cascade.Style) cascade.Style {
	s := cascade.Style{V: firsts(), Vars: parent.Vars}
	for _, at := range []int{api.PColor, api.PSize, api.PLine, api.PAlign, api.PIndent, api.PSpace, api.PVisible, api.PPointer, api.PMarker} {
		s.V[at] = parent.V[at]
	}
	s.V[api.PBorderColor] = parent.V[api.PColor]
	return s
}

// telling of a page.
type telling struct {
	*tree.Tree
	root   int
	styles map[int]*cascade.Style
	known  map[*cascade.Style]string // styles of boxes without a node, by their parents'
	texts  map[string]int            // numbers of styles, by what they are
}

// part of what lies in an element.
type part struct {
	sort  byte // t: a run, /: a break, e: an element's box
	node  int
	text  string
	style *cascade.Style
}

func (m *telling) says(p part, at int, words ...string) bool {
	return slices.Contains(words, p.style.V[at].Text)
}

// style: a style's number, the same of all that are alike.
func (m *telling) style(text string) string {
	if m.texts[text] == 0 {
		m.texts[text] = len(m.texts) + 1
	}
	return fmt.Sprint("~", m.texts[text])
}

func (m *telling) hidden(id int) bool {
	for ; m.styles[id] != nil; id = m.Parent(id) {
		if m.styles[id].V[api.PDisplay].Text == "none" {
			return true
		}
	}
	return false
}

// number of a counter at an element.
func (m *telling) number(name string, id int) string {
	n := 0
	add := func(more int) {
		n += more
		if n > api.MaxNum {
			n = api.MaxNum
		}
		if n < -api.MaxNum {
			n = -api.MaxNum
		}
	}
	for _, at := range m.Under(m.root) {
		if m.Kind(at) != api.Element || m.hidden(at) {
			continue
		}
		v := m.styles[at].V
		if v[api.PReset].Kind == api.VText && v[api.PReset].Text == name {
			n = v[api.PReset].N
		}
		if v[api.PStep].Kind == api.VText && v[api.PStep].Text == name {
			add(v[api.PStep].N)
		}
		if v[api.PDisplay].Text == "list-item" && name == "list-item" {
			add(1)
		}
		if at == id {
			break
		}
	}
	return strconv.Itoa(n)
}

// alphas: the letters that come so many steps behind the first one.
func alphas(number string) string {
	n, _ := strconv.Atoi(number)
	if n < 1 {
		return number
	}
	size, many := 1, 26
	for n -= 1; n >= many; many *= 26 {
		n -= many
		size++
	}
	text := ""
	for range size {
		text = "abcdefghijklmnopqrstuvwxyz"[n%26:n%26+1] + text
		n /= 26
	}
	return text
}

// parts of an element.
func (m *telling) parts(id int) []part {
	var list []part
	style := m.styles[id]
	say := func(text string) { list = append(list, part{'t', id, text, style}) }
	if style.V[api.PDisplay].Text == "list-item" {
		switch style.V[api.PMarker].Text {
		case "disc":
			say("• ")
		case "decimal":
			say(m.number("list-item", id) + ". ")
		case "lower-alpha":
			say(alphas(m.number("list-item", id)) + ". ")
		}
	}
	if c := style.V[api.PContent]; c.Kind == api.VText {
		say(c.Text)
	} else if c.Text != "none" {
		say(m.number(c.Text[8:len(c.Text)-1], id))
	}
	for _, kid := range m.Kids(id) {
		list = append(list, m.node(kid, style)...)
	}
	return list
}

// node: the parts that one makes in an element of a style.
func (m *telling) node(id int, style *cascade.Style) []part {
	switch m.Kind(id) {
	case api.Comment:
		return nil
	case api.Text:
		if m.Words(id) == "" {
			return nil
		}
		return []part{{'t', id, m.Words(id), style}}
	}
	own := m.styles[id]
	display := own.V[api.PDisplay].Text
	if display == "none" {
		return nil
	}
	if display == "contents" {
		return m.parts(id)
	}
	if m.Tag(id) == "br" {
		return []part{{'/', id, "", own}}
	}
	return []part{{'e', id, "", own}}
}

func (m *telling) aside(p part) bool {
	return p.sort == 'e' && (!m.says(p, api.PFloat, "none") || m.says(p, api.PPosition, "absolute", "fixed"))
}

func (m *telling) block(p part) bool {
	if p.sort != 'e' || m.aside(p) || m.says(p, api.PDisplay, "inline-block") {
		return false
	}
	return !m.says(p, api.PDisplay, "inline") || m.hasBlock(p.node)
}

func (m *telling) hasBlock(id int) bool {
	for _, p := range m.parts(id) {
		if m.block(p) {
			return true
		}
	}
	return false
}

// class of a part, as a letter.
func (m *telling) class(p part) string {
	switch {
	case p.sort == 't' && strings.Trim(p.text, "\t\n\f\r ") == "" && m.says(p, api.PSpace, "normal", "nowrap", "pre-line"):
		return "_"
	case p.sort == 'e' && m.aside(p):
		return "o"
	case m.block(p):
		return "#"
	}
	return string(p.sort)
}

var (
	groups = regexp.MustCompile(`#|[^#]+`)
	rows   = regexp.MustCompile(`[t_]+|.`)
)

// tell a part that stands in what is shared, or not.
func (m *telling) tell(p part, shared bool) string {
	switch p.sort {
	case 't':
		return fmt.Sprintf("T%d%s%q", p.node, m.style(told(*p.style)), p.text)
	case '/':
		return fmt.Sprintf("/%d%s", p.node, m.style(told(*p.style)))
	}
	letter := map[string]string{"flex": "F", "grid": "G", "inline": "I", "inline-block": "A"}[p.style.V[api.PDisplay].Text]
	if letter == "" || (letter == "I" || letter == "A") && (shared || m.aside(p)) || letter == "I" && m.hasBlock(p.node) {
		letter = "B"
	}
	parts := m.parts(p.node)
	within := ""
	switch letter {
	case "I":
		within = m.all(parts, false)
	case "F", "G":
		within = m.cut(rows, parts, func(class string, some []part) string { return m.item(class, some, p.style) })
	default:
		within = m.cut(groups, parts, func(class string, some []part) string { return m.group(class, some, p.style) })
	}
	return letter + strconv.Itoa(p.node) + m.style(told(*p.style)) + "(" + within + ")"
}

func (m *telling) all(parts []part, shared bool) string {
	text := ""
	for _, p := range parts {
		text += m.tell(p, shared)
	}
	return text
}

// cut parts by what their classes are, and tell each piece.
func (m *telling) cut(pattern *regexp.Regexp, parts []part, tell func(string, []part) string) string {
	classes := ""
	for _, p := range parts {
		classes += m.class(p)
	}
	text := ""
	for _, at := range pattern.FindAllStringIndex(classes, -1) {
		text += tell(classes[at[0]:at[1]], parts[at[0]:at[1]])
	}
	return text
}

func (m *telling) none(parent *cascade.Style) string {
	if m.known[parent] == "" {
		m.known[parent] = told(nameless(parent))
	}
	return m.style(m.known[parent])
}

func (m *telling) group(classes string, parts []part, style *cascade.Style) string {
	if classes == "#" {
		return m.tell(parts[0], false)
	}
	if strings.Trim(classes, "o_") != "" {
		return "L0" + m.none(style) + "(" + m.all(parts, false) + ")"
	}
	text := ""
	for i, p := range parts {
		if classes[i] == 'o' {
			text += m.tell(p, false)
		}
	}
	return text
}

func (m *telling) item(classes string, parts []part, style *cascade.Style) string {
	if classes == "/" || strings.Trim(classes, "_") == "" {
		return ""
	}
	if strings.Trim(classes, "t_") != "" {
		return m.tell(parts[0], true)
	}
	s := m.none(style)
	return "B0" + s + "(L0" + s + "(" + m.all(parts, false) + "))"
}

// whole: the box of the root.
func (m *telling) whole() string {
	if m.Kind(m.root) != api.Element {
		return "nil"
	}
	parts := m.node(m.root, nil)
	if len(parts) == 0 || parts[0].sort == '/' {
		return "nil"
	}
	return m.tell(parts[0], true)
}

// box: one that was made, in the same way.
func (m *telling) box(b *Box) string {
	if b == nil {
		return "nil"
	}
	text := letterOf(b.Kind) + strconv.Itoa(b.Node) + m.style(told(*b.Style))
	if b.Kind == api.BRun {
		text += fmt.Sprintf("%q", b.Text)
	}
	within := ""
	for _, kid := range b.Kids {
		within += m.box(kid)
	}
	if b.Kind != api.BRun && b.Kind != api.BBreak || within != "" {
		text += "(" + within + ")"
	}
	return text
}

// hold what is made of a page against what is told of it.
func hold(t *testing.T, d *tree.Tree, root int, l []cascade.Source, said string) {
	t.Helper()
	m := &telling{d, root, make(map[int]*cascade.Style), make(map[*cascade.Style]string), make(map[string]int)}
	ids, styles := cascade.Styles(d, root, l, cascade.View{})
	for i, id := range ids {
		m.styles[id] = &styles[i]
	}
	b := Make(d, root, l, cascade.View{})
	if got, want := m.box(b), m.whole(); got != want {
		text, _ := markup.Write(d, root)
		t.Fatalf("%d of %s\nwith %s:\n%s, want\n%s", root, text, said, got, want)
	}
	if b != nil {
		holdShape(t, b)
	}
}

// holdShape: what is true of all boxes that are put right.
func holdShape(t *testing.T, b *Box) {
	t.Helper()
	if b.Node == 0 && b.Kind != api.BLines && b.Kind != api.BBlock || b.Node > 0 && b.Kind == api.BLines || b.Text != "" && b.Kind != api.BRun {
		t.Fatal(shown(b))
	}
	for _, kid := range b.Kids {
		inLine := kid.Kind == api.BRun || kid.Kind == api.BBreak || kid.Kind == api.BInline || kid.Kind == api.BAtom
		switch b.Kind {
		case api.BLines, api.BInline:
			if kid.isBlock() || kid.Kind == api.BLines {
				t.Fatal(shown(b))
			}
		case api.BBlock, api.BAtom, api.BFlex, api.BGrid:
			if inLine || kid.Kind == api.BLines && b.Kind != api.BBlock && b.Kind != api.BAtom {
				t.Fatal(shown(b))
			}
		default:
			t.Fatal(shown(b))
		}
		holdShape(t, kid)
	}
}

// chance makes pages.
type chance struct{ *rand.Rand }

func (c chance) of(list ...string) string { return list[c.Intn(len(list))] }

func (c chance) tag() string {
	return c.of("div", "p", "f", "g", "a", "c", "li", "n", "b", "b", "b", "i", "i", "br")
}

func (c chance) declaration() string {
	switch c.Intn(8) {
	case 0, 1:
		return "display:" + c.of("none", "block", "inline", "inline", "inline-block", "flex", "grid", "contents", "list-item", "inherit")
	case 2:
		return c.of("float:left", "float:right", "position:absolute", "position:fixed", "position:relative", "position:inherit")
	case 3:
		return "white-space:" + c.of("normal", "nowrap", "pre", "pre-wrap", "pre-line")
	case 4:
		return "content:" + c.of("''", "' '", "'x'", "counter(k)", "counter(list-item)", "inherit", "none")
	case 5:
		return c.of("counter-reset:", "counter-increment:") + c.of("k", "k", "list-item", "none") + c.of("", " 2", " -1", " 25", " 700", " 1000000", " -1000000")
	case 6:
		return "list-style-type:" + c.of("none", "disc", "decimal", "lower-alpha", "lower-alpha")
	}
	return c.of("color:red", "--x:1", "--y:var(--x,2)", "font-size:2em", "margin:1px", "border-color:blue", "visibility:hidden", "line-height:2", "text-indent:1em")
}

func (c chance) declarations() string {
	text := ""
	for range c.Intn(3) {
		text += c.declaration() + ";"
	}
	return text
}

func (c chance) rules() string {
	text := base
	for range c.Intn(5) {
		text += c.of("*", "b", "i", "div", "c", "br", "p b", "f > *", "li + *", ":first-child", ".k") + "{" + c.declarations() + "}"
	}
	return text
}

// tree of some nodes.
func (c chance) tree() *tree.Tree {
	d := tree.New()
	open := []int{0}
	for range 1 + c.Intn(24) {
		id := 0
		switch c.Intn(5) {
		case 0:
			id, _ = d.Text(c.of("", " ", " \n", "x", "y z", "\t"))
		case 1:
			id, _ = d.Comment("x")
			if c.Intn(3) > 0 {
				id, _ = d.Text(c.of(" ", "x"))
			}
		default:
			id, _ = d.Element(c.tag())
			if c.Intn(3) == 0 {
				d.Set(id, "style", c.declarations())
			}
			if c.Intn(4) == 0 {
				d.Set(id, "class", "k")
			}
		}
		// The last ones are taken more often: else pages are flat.
		parent := open[max(c.Intn(len(open)), c.Intn(len(open)))]
		d.Put(parent, id, c.Intn(len(d.Kids(parent))+1))
		if d.Kind(id) == api.Element {
			open = append(open, id)
		}
	}
	return d
}

func (c chance) hold(t *testing.T) {
	t.Helper()
	d := c.tree()
	rules := c.rules()
	s, err := sheet.Read(rules)
	if err != nil {
		t.Fatal(err)
	}
	for range 2 {
		hold(t, d, c.Intn(d.Size()), []cascade.Source{{Sheet: s}}, rules)
	}
	if kids := d.Kids(0); len(kids) > 0 {
		hold(t, d, kids[0], []cascade.Source{{Sheet: s}}, rules)
	}
}

func TestBoxesAreToldTwice(t *testing.T) {
	c := chance{rand.New(rand.NewSource(71))}
	for range 3000 {
		c.hold(t)
	}
}

func FuzzMake(f *testing.F) {
	f.Add(int64(1))
	f.Fuzz(func(t *testing.T, seed int64) { chance{rand.New(rand.NewSource(seed))}.hold(t) })
}
