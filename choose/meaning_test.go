package choose

import (
	"fmt"
	"math/rand"
	"slices"
	"strings"
	"testing"

	"casement/api"
	"casement/tree"
)

// A second telling of what selectors mean: lists are made at random, spelt at random, and held against sets of elements that are told from the left to the right.

type madeList []madeChain

type madeChain []madeCompound

type madeCompound struct {
	joint, tag string
	parts      []madePart
}

// madePart: its kind is #, ., [, a state, an nth, not, is or has.
type madePart struct {
	kind, name, op, word string
	a, b                 int
	list                 madeList
}

type maker struct{ *rand.Rand }

func (m maker) of(texts ...string) string { return texts[m.Intn(len(texts))] }

func (m maker) list(deep int, has bool) madeList {
	var out madeList
	for range 1 + m.Intn(2) {
		c := madeChain{m.compound("", deep, has)}
		for m.Intn(2) == 0 && len(c) < 5 {
			c = append(c, m.compound(m.of(" ", " ", ">", "+", "~", "~"), deep, has))
		}
		out = append(out, c)
	}
	return out
}

func (m maker) compound(joint string, deep int, has bool) madeCompound {
	c := madeCompound{joint: joint, tag: m.of("", "*", "*", "a", "b", "c")}
	for (m.Intn(3) == 0 || c.tag == "" && len(c.parts) == 0) && len(c.parts) < 4 {
		c.parts = append(c.parts, m.part(deep, has))
	}
	return c
}

func (m maker) part(deep int, has bool) madePart {
	kinds := []string{
		"#", ".", ".", "[", "[", "root", "empty", "first-child", "last-child", "only-child", "first-of-type", "last-of-type", "hover", "focus",
		"nth-child", "nth-child", "nth-last-child", "nth-of-type",
	}
	if deep > 0 {
		kinds = append(kinds, "not", "not", "is", "is")
		if !has {
			kinds = append(kinds, "has", "has", "has")
		}
	}
	p := madePart{kind: m.of(kinds...)}
	switch p.kind {
	case "#", ".":
		p.word = m.of("x", "y", "X")
	case "[":
		p.name, p.op = m.of("id", "class", "k"), m.of("", "=", "~=", "|=", "^=", "$=", "*=")
		p.word = m.of("x", "y", "x y", "", "-", "xy", "x-", "\t")
	case "nth-child", "nth-last-child", "nth-of-type":
		p.a, p.b = m.Intn(9)-4, m.Intn(13)-6
	case "not", "is", "has":
		p.list = m.list(deep-1, has || p.kind == "has")
	}
	return p
}

// form of what was made.
func (l madeList) form() string {
	var chains []string
	for _, c := range l {
		text := ""
		for _, one := range c {
			text += strings.NewReplacer(">", " > ", "+", " + ", "~", " ~ ").Replace(one.joint)
			if one.tag != "*" || len(one.parts) == 0 {
				text += one.tag
			}
			for _, p := range one.parts {
				text += p.form()
			}
		}
		chains = append(chains, text)
	}
	return strings.Join(chains, ", ")
}

func (p madePart) form() string {
	switch {
	case p.kind == "#", p.kind == ".":
		return p.kind + p.word
	case p.kind == "[" && p.op == "":
		return "[" + p.name + "]"
	case p.kind == "[":
		return "[" + p.name + p.op + `"` + p.word + `"]`
	case strings.HasPrefix(p.kind, "nth-"):
		return fmt.Sprintf(":%s(%dn%+d)", p.kind, p.a, p.b)
	case p.list != nil:
		return ":" + p.kind + "(" + p.list.form() + ")"
	}
	return ":" + p.kind
}

func (m maker) gap() string { return m.of("", "", "", " ", "/**/", " /*x*/\n", "\t") }

// anySize: letters of a text, large or small.
func (m maker) anySize(text string) string {
	if m.Intn(3) == 0 {
		return strings.ToUpper(text)
	}
	return text
}

// spell what was made, otherwise than its form.
func (m maker) spell(l madeList) string {
	text := ""
	for i, c := range l {
		if i > 0 {
			text += ","
		}
		text += m.gap()
		for _, one := range c {
			switch one.joint {
			case " ":
				text += m.of("", "/**/") + m.of(" ", "\n", "\f\r") + m.gap()
			case ">", "+", "~":
				text += m.gap() + one.joint + m.gap()
			}
			text += m.anySize(one.tag)
			for _, p := range one.parts {
				text += m.spellPart(p)
			}
		}
		text += m.gap()
	}
	return text
}

func (m maker) spellPart(p madePart) string {
	switch {
	case p.kind == "#", p.kind == ".":
		return p.kind + p.word
	case p.kind == "[":
		text := "[" + m.gap() + m.anySize(p.name) + m.gap()
		if p.op != "" {
			text += p.op + m.gap() + m.spellWord(p.word) + m.gap()
		}
		return text + "]"
	case strings.HasPrefix(p.kind, "nth-"):
		return ":" + m.anySize(p.kind) + "(" + m.of("", " ", "\n") + m.spellFormula(p.a, p.b) + m.of("", " ") + ")"
	case p.list != nil:
		return ":" + m.anySize(p.kind) + "(" + m.spell(p.list) + ")"
	}
	return ":" + m.anySize(p.kind)
}

func (m maker) spellWord(word string) string {
	if word == "x" || word == "y" || word == "xy" || word == "x-" {
		return m.of(word, `"`+word+`"`, "'"+word+"'")
	}
	return m.of(`"`+word+`"`, "'"+word+"'")
}

func (m maker) spellFormula(a, b int) string {
	ways := []string{fmt.Sprintf("%dn%+d", a, b), fmt.Sprintf("%+dN%+d", a, b)}
	if b >= 0 {
		ways = append(ways, fmt.Sprintf("%dn + %03d", a, b))
	} else {
		ways = append(ways, fmt.Sprintf("%dn -\n%d", a, -b))
	}
	if b == 0 {
		ways = append(ways, fmt.Sprintf("%dn", a), fmt.Sprintf("%dN - 0", a))
	}
	if a == 0 {
		ways = append(ways, fmt.Sprint(b), fmt.Sprintf("%+d", b))
	}
	if a == 1 || a == -1 {
		ways = append(ways, strings.Replace(ways[0], "1n", "n", 1))
	}
	if a == 2 && b == 1 {
		ways = append(ways, "odd", "ODD")
	}
	if a == 2 && b == 0 {
		ways = append(ways, "even", "eVeN")
	}
	return m.of(ways...)
}

// worth of what was made, as one number of three digits of a great base.
func (l madeList) worth(i int) int {
	sum := 0
	for _, one := range l[i] {
		if one.tag != "" && one.tag != "*" {
			sum++
		}
		for _, p := range one.parts {
			most := 0
			for i := range p.list {
				most = max(most, p.list.worth(i))
			}
			switch {
			case p.kind == "#":
				sum += 1e8
			case p.list != nil:
				sum += most
			default:
				sum += 1e4
			}
		}
	}
	return sum
}

// grove: a tree, and what is asked of it.
type grove struct {
	*tree.Tree
	State
	all []int // the elements
}

func (m maker) grove() grove {
	g := grove{Tree: tree.New()}
	for range 2 + m.Intn(12) {
		id, err := 0, error(nil)
		switch m.Intn(8) {
		case 0:
			id, err = g.Text(m.of("", "x"))
		case 1:
			id, err = g.Comment("x")
		default:
			id, err = g.Element(m.of("a", "b", "c"))
			g.all = append(g.all, id)
			for _, name := range []string{"id", "class", "k"} {
				if m.Intn(2) == 0 {
					g.Set(id, name, m.of("x", "y", "X", "x y", "y\tx ", "", "x-y", "-", "xy", " ", "\t"))
				}
			}
		}
		if err != nil {
			panic(err)
		}
		parent := m.Intn(id)
		g.Put(parent, id, m.Intn(len(g.Kids(parent))+1)) // of no effect, if it cannot have kids: then it is a root
		if m.Intn(4) == 0 {
			g.Hover = append(g.Hover, id)
		}
		if m.Intn(4) == 0 {
			g.Focus = append(g.Focus, id)
		}
	}
	return g
}

// brothers of an element in order; all of them, or those of its tag.
func (g grove) brothers(id int, sameTag bool) []int {
	var out []int
	for _, other := range g.all {
		mate := other == id || g.Parent(id) >= 0 && g.Parent(other) == g.Parent(id)
		if mate && (!sameTag || g.Tag(other) == g.Tag(id)) {
			out = append(out, other)
		}
	}
	slices.SortFunc(out, func(a, b int) int {
		order, _ := g.Order(a, b)
		return order
	})
	return out
}

func (g grove) set(c madeChain) []int {
	var fit []int
	for i, one := range c {
		var next []int
		for _, id := range g.all {
			if g.is(one, id) && (i == 0 || slices.ContainsFunc(fit, func(left int) bool { return g.linked(left, one.joint, id) })) {
				next = append(next, id)
			}
		}
		fit = next
	}
	return fit
}

func (g grove) linked(left int, joint string, id int) bool {
	mates := g.brothers(id, false)
	gap := slices.Index(mates, id) - slices.Index(mates, left)
	switch joint {
	case " ":
		return left != id && slices.Contains(g.Under(left), id)
	case ">":
		return slices.Contains(g.Kids(left), id)
	case "+":
		return slices.Contains(mates, left) && gap == 1
	}
	return slices.Contains(mates, left) && gap > 0
}

func (g grove) is(c madeCompound, id int) bool {
	if c.tag != "" && c.tag != "*" && c.tag != g.Tag(id) {
		return false
	}
	for _, p := range c.parts {
		if !g.part(p, id) {
			return false
		}
	}
	return true
}

func (g grove) one(l madeList, id int) bool {
	return slices.ContainsFunc(l, func(c madeChain) bool { return slices.Contains(g.set(c), id) })
}

func (g grove) part(p madePart, id int) bool {
	mates, kin := g.brothers(id, false), g.brothers(id, true)
	switch p.kind {
	case "#":
		return g.value(id, "id", "=", p.word)
	case ".":
		return g.value(id, "class", "~=", p.word)
	case "[":
		return g.value(id, p.name, p.op, p.word)
	case "root":
		return slices.Contains(g.Kids(0), id)
	case "empty":
		n := 0
		for _, kid := range g.Kids(id) {
			if g.Kind(kid) == api.Comment {
				n++
			}
		}
		return n == len(g.Kids(id))
	case "first-child":
		return slices.Index(mates, id) == 0
	case "last-child":
		return slices.Index(mates, id) == len(mates)-1
	case "only-child":
		return len(mates) == 1
	case "first-of-type":
		return slices.Index(kin, id) == 0
	case "last-of-type":
		return slices.Index(kin, id) == len(kin)-1
	case "hover":
		return slices.Contains(g.Hover, id)
	case "focus":
		return slices.Contains(g.Focus, id)
	case "not":
		return !g.one(p.list, id)
	case "is":
		return g.one(p.list, id)
	case "has":
		return slices.ContainsFunc(g.all, func(other int) bool {
			return other != id && slices.Contains(g.Under(id), other) && g.one(p.list, other)
		})
	case "nth-last-child":
		slices.Reverse(mates)
	case "nth-of-type":
		mates = kin
	}
	for n := range 100 {
		if p.a*n+p.b == slices.Index(mates, id)+1 {
			return true
		}
	}
	return false
}

func (g grove) value(id int, name, op, word string) bool {
	value, ok := g.Attr(id, name)
	padded := "\n" + strings.NewReplacer(" ", "\n", "\t", "\n").Replace(value) + "\n"
	switch {
	case !ok:
		return false
	case op == "=":
		return value == word
	case op == "|=":
		return strings.HasPrefix(value+"-", word+"-")
	case op == "~=":
		return !strings.ContainsAny(word, " \t") && word != "" && strings.Contains(padded, "\n"+word+"\n")
	case op != "" && word == "":
		return false
	case op == "^=":
		return strings.Index(value, word) == 0
	case op == "$=":
		return strings.HasSuffix(value, word)
	case op == "*=":
		return strings.Index(value, word) >= 0
	}
	return true
}

func (g grove) hold(t *testing.T, made madeList, text string) {
	t.Helper()
	l, err := Read(text)
	if err != nil {
		t.Fatalf("%q: %v", text, err)
	}
	if l.Text() != made.form() || l.Size() != len(made) {
		t.Fatalf("%q: %q, want %q", text, l.Text(), made.form())
	}
	for i := range made {
		if w := l.Weight(i); w[0]*1e8+w[1]*1e4+w[2] != made.worth(i) {
			t.Fatalf("%q, %d: %v, want %d", text, i, w, made.worth(i))
		}
		set := g.set(made[i])
		for id := range g.Size() {
			if l.Fits(i, g.Tree, id, g.State) != slices.Contains(set, id) {
				t.Fatalf("%q, %d, of %d: not %v", text, i, id, slices.Contains(set, id))
			}
		}
	}
	finder := l.Finder(g.Tree, g.State)
	for id := -1; id <= g.Size(); id++ {
		most := -1
		for i := range made {
			if slices.Contains(g.set(made[i]), id) {
				most = max(most, made.worth(i))
			}
		}
		w, ok := finder.Greatest(id)
		if ok != (most >= 0) || w[0]*1e8+w[1]*1e4+w[2] != max(most, 0) {
			t.Fatalf("%q, of %d: %v %v, want %d", text, id, w, ok, most)
		}
	}
	for root := range g.Size() {
		var want []int
		for _, id := range g.Under(root) {
			if id != root && g.one(made, id) {
				want = append(want, id)
			}
		}
		if got := Query(g.Tree, root, l, g.State); !slices.Equal(got, want) {
			t.Fatalf("%q in %d: %v, want %v", text, root, got, want)
		}
	}
}

func TestMeaningIsToldTwice(t *testing.T) {
	m := maker{rand.New(rand.NewSource(53))}
	for range 3000 {
		g := m.grove()
		made := m.list(2, false)
		g.hold(t, made, m.spell(made))
	}
}

func FuzzMeaning(f *testing.F) {
	f.Add(int64(1))
	f.Fuzz(func(t *testing.T, seed int64) {
		m := maker{rand.New(rand.NewSource(seed))}
		made := m.list(3, false)
		m.grove().hold(t, made, m.spell(made))
	})
}
