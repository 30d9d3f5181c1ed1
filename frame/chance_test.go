package frame

import (
	"math/rand"
	"strings"
	"testing"

	"casement/api"
	"casement/boxes"
	"casement/cascade"
	"casement/markup"
	"casement/sheet"
	"casement/tree"
)

// base: what tests say of tags.
const base = "*{font-size:10px}div,p{display:block}f{display:flex}g{display:grid}a{display:inline-block}h{display:block;overflow:hidden}"

// chance makes pages.
type chance struct{ *rand.Rand }

func (c chance) of(list ...string) string { return list[c.Intn(len(list))] }

func (c chance) length() string {
	return c.of("0", "1px", "3px", "7.3px", "12px", "30px", "1em", "10%", "33.3%", "50%")
}

func (c chance) signed() string {
	if c.Intn(4) == 0 {
		return "-" + c.length()
	}
	return c.length()
}

func (c chance) size() string {
	return c.of("0", "5px", "17.7px", "30px", "60px", "3em", "20%", "45.5%", "100%", "130%")
}

func (c chance) tracks() string {
	text := ""
	for range 1 + c.Intn(3) {
		text += c.of("auto ", "20px ", "1fr ", "2.5fr ", "0.3fr ", "25% ", "1em ")
	}
	return text
}

func (c chance) side() string { return c.of("top", "right", "bottom", "left") }

func (c chance) declaration() string {
	switch c.Intn(22) {
	case 0, 1, 2:
		return "margin-" + c.side() + ":" + c.of(c.signed(), c.signed(), "auto")
	case 3:
		return "margin:" + c.signed() + " " + c.of(c.signed(), "auto")
	case 4:
		return "padding-" + c.side() + ":" + c.length()
	case 5:
		return "border-" + c.side() + "-width:" + c.of("1px", "2px", "5px", "0.5em")
	case 6, 7:
		return c.of("width:", "height:", "height:") + c.size()
	case 8:
		return c.of("min-", "max-") + c.of("width:", "height:") + c.size()
	case 9:
		return "box-sizing:border-box"
	case 10, 11:
		return "float:" + c.of("left", "right")
	case 12:
		return "clear:" + c.of("left", "right", "both")
	case 13, 14:
		return "position:" + c.of("relative", "relative", "absolute", "absolute", "fixed")
	case 15, 16:
		return c.side() + ":" + c.signed()
	case 17:
		return c.of("overflow:hidden", "text-align:right", "text-align:center", "text-align:justify", "text-indent:7px", "font-size:8px", "font-size:1.7em", "line-height:2", "line-height:30px", "line-height:0.5")
	case 18:
		return c.of("vertical-align:sub", "vertical-align:super", "vertical-align:3px", "vertical-align:-5px", "white-space:nowrap", "white-space:pre", "white-space:pre-line")
	case 19:
		return c.of("flex:1", "flex:2 3", "flex:1 1 30px", "flex:none", "flex-grow:0.5", "flex-shrink:0", "flex-basis:40%", "flex-basis:25px", "order:1", "order:-1")
	case 20:
		return c.of("align-self:", "align-items:", "align-items:") + c.of("start", "end", "center", "stretch")
	}
	return c.of("grid-column-start:", "grid-row-start:", "grid-column-span:", "grid-row-span:") + c.of("1", "2", "3")
}

// shared: what is said of how items share a box.
func (c chance) shared() string {
	text := c.of("", "", "flex-direction:column;", "flex-direction:row-reverse;", "flex-direction:column-reverse;", "flex-wrap:wrap;")
	text += c.of("", "gap:3px 5px;", "gap:10%;")
	text += c.of("", "justify-content:"+c.of("end", "center", "between", "around", "evenly")+";")
	return text + c.of("", "grid-template-columns:"+c.tracks()+";") + c.of("", "grid-template-rows:"+c.tracks()+";")
}

// declarations for an element of that tag.
func (c chance) declarations(tag string, most int) string {
	text := ""
	if (tag == "f" || tag == "g") && c.Intn(3) > 0 {
		text = c.shared()
	}
	for range c.Intn(most) {
		text += c.declaration() + ";"
	}
	return text
}

// tree of some nodes, in a root.
func (c chance) tree(most int) *tree.Tree {
	d := tree.New()
	root, _ := d.Element(c.of("div", "div", "div", "f", "g", "h"))
	d.Put(0, root, 0)
	if c.Intn(2) == 0 {
		d.Set(root, "style", c.declarations(d.Tag(root), 4))
	}
	open := []int{root}
	for range c.Intn(most) {
		id := 0
		if c.Intn(3) == 0 {
			id, _ = d.Text(c.of(" ", "i", "aa ", "aa aa", "mm a i wwww ", "a\nbb  c", "aa aa aa aa aa aa aa aa aa"))
		} else {
			id, _ = d.Element(c.of("div", "div", "p", "b", "b", "i", "a", "f", "g", "h", "br"))
			d.Set(id, "style", c.declarations(d.Tag(id), 6))
		}
		// The last ones are taken more often: else pages are flat.
		parent := open[max(c.Intn(len(open)), c.Intn(len(open)))]
		d.Put(parent, id, len(d.Kids(parent)))
		if d.Kind(id) == api.Element {
			open = append(open, id)
		}
	}
	return d
}

// boxOf a tree's first element, by the base and some rules.
func boxOf(t *testing.T, d *tree.Tree, rules string) *boxes.Box {
	t.Helper()
	s, err := sheet.Read(base + rules)
	if err != nil {
		t.Fatal(err)
	}
	return boxes.Make(d, d.Kids(0)[0], []cascade.Source{{Sheet: s}}, cascade.View{})
}

func (c chance) hold(t *testing.T, most int) {
	t.Helper()
	d := c.tree(most)
	b := boxOf(t, d, "")
	if b == nil {
		return
	}
	if said := hold(t, b, c.Intn(200)*api.Unit, c.Intn(200)*api.Unit); strings.Contains(said, "!") {
		text, _ := markup.Write(d, 0)
		t.Fatalf("%s\n%s", text, said)
	}
}

// P120 to P127: pages made by chance are laid as the second telling says.
func TestModel(t *testing.T) {
	c := chance{rand.New(rand.NewSource(12))}
	for range 20000 {
		c.hold(t, 14)
	}
}

func FuzzLay(f *testing.F) {
	f.Add(int64(1))
	f.Fuzz(func(t *testing.T, seed int64) { chance{rand.New(rand.NewSource(seed))}.hold(t, 20) })
}
