package cascade

import (
	"fmt"
	"math/big"
	"math/rand"
	"regexp"
	"slices"
	"sort"
	"strings"
	"testing"

	"casement/api"
	"casement/choose"
	"casement/markup"
	"casement/sheet"
	"casement/tree"
)

// A second telling of styles: all that is declared is sorted, references are put in by the texts' letters, rings are found by going round, and lengths are worked out as fractions. (What Parse and selectors say is taken from them.)

// page to be styled, and what is known of it.
type page struct {
	*tree.Tree
	list   []Source
	view   View
	root   int
	values map[int][]string          // each property, as it is shown
	vars   map[int]map[string]string // each element's own properties
}

type declared struct {
	Pair
	key [5]int
}

// declarations of an element, the weightiest last.
func (p *page) declarations(id int) []declared {
	var all []declared
	add := func(d sheet.Decl, base bool, here int, w [3]int) {
		pairs, _ := Parse(d.Name, d.Value)
		sort := map[string]int{"true true": 4, "true false": 3, "false false": 2, "false true": 1}[fmt.Sprint(d.Strong, base)]
		for _, pair := range pairs {
			all = append(all, declared{pair, [5]int{sort, here, w[0], w[1], w[2]}})
		}
	}
	for _, s := range p.list {
		for _, r := range s.Sheet.Rules {
			l, err := choose.Read(r.Head)
			if err != nil || !sheet.Applies(r.Media, p.view.Width, p.view.Height) {
				continue
			}
			var fits [][3]int
			for i := range l.Size() {
				if l.Fits(i, p.Tree, id, p.view.State) {
					fits = append(fits, l.Weight(i))
				}
			}
			if len(fits) == 0 {
				continue
			}
			slices.SortFunc(fits, func(a, b [3]int) int { return slices.Compare(a[:], b[:]) })
			for _, d := range r.Decls {
				add(d, s.Base, 0, fits[len(fits)-1])
			}
		}
	}
	style, _ := p.Attr(id, "style")
	for _, d := range sheet.Declarations(style) {
		add(d, false, 1, [3]int{})
	}
	sort.SliceStable(all, func(i, j int) bool { return slices.Compare(all[i].key[:], all[j].key[:]) < 0 })
	return all
}

var (
	letterTokens = regexp.MustCompile(`/\*\*/|-?(\d+(\.\d+)?|\.\d+)(%|[a-zA-Z][a-zA-Z0-9-]*)?|#[a-zA-Z0-9-]+|-?[a-zA-Z][a-zA-Z0-9-]*\(?|--[a-zA-Z0-9-]*\(?|"[^"]*"|\s+|.`)
	bareNumber   = regexp.MustCompile(`^-?[0-9.]+$`)
	varCall      = regexp.MustCompile(`(?i)^var\($`)
	varName      = regexp.MustCompile(`^--[a-z]*$`)
	wordEnd      = regexp.MustCompile(`[a-zA-Z0-9#.-]$`)
	wordStart    = regexp.MustCompile(`^[a-zA-Z0-9%.-]`)
)

// reading of a value, letter by letter.
type reading struct {
	tokens []string
	look   func(name string) (string, bool)
	names  []string // that were seen, also in what is not put in
	bad    bool
}

func cutTokens(text string) []string {
	list := letterTokens.FindAllString(text, -1)
	return slices.DeleteFunc(list, func(s string) bool { return s == "/**/" })
}

// fill up to what closes; used: it is put in.
func (r *reading) fill(used bool) (out []string, ok bool) {
	ok = true
	for len(r.tokens) > 0 && !strings.Contains(")]", r.tokens[0]) {
		t := r.tokens[0]
		r.tokens = r.tokens[1:]
		if varCall.MatchString(t) {
			more, good := r.fillVar(used)
			out, ok = append(out, more...), ok && good
			continue
		}
		out = append(out, t)
		if strings.HasSuffix(t, "(") || t == "[" {
			more, good := r.fill(used)
			out, ok = append(append(out, more...), r.tokens[0]), ok && good
			r.tokens = r.tokens[1:]
		}
	}
	return out, ok
}

func (r *reading) blanks() {
	for len(r.tokens) > 0 && strings.TrimSpace(r.tokens[0]) == "" {
		r.tokens = r.tokens[1:]
	}
}

func (r *reading) fillVar(used bool) (out []string, ok bool) {
	r.blanks()
	name := r.tokens[0]
	if varName.MatchString(name) {
		r.tokens = r.tokens[1:]
		r.blanks()
	}
	falls := r.tokens[0] == ","
	if falls {
		r.tokens = r.tokens[1:]
	}
	good := varName.MatchString(name) && (falls || r.tokens[0] == ")")
	text, there := "", false
	if good {
		r.names = append(r.names, name)
		text, there = r.look(name)
	}
	rest, restOK := r.fill(used && !there)
	for len(rest) > 0 && strings.TrimSpace(rest[0]) == "" {
		rest = rest[1:]
	}
	for len(rest) > 0 && strings.TrimSpace(rest[len(rest)-1]) == "" {
		rest = rest[:len(rest)-1]
	}
	r.tokens = r.tokens[1:]
	r.bad = r.bad || !good
	switch {
	case !used:
		return nil, true
	case there:
		return cutTokens(text), true
	}
	return rest, falls && restOK
}

func joined(list []string) string {
	out, last, blank := "", "", false
	for _, t := range list {
		if strings.TrimSpace(t) == "" {
			blank = true
			continue
		}
		switch {
		case out == "":
		case blank:
			out += " "
		case bareNumber.MatchString(last) && t[0] == '-', t[0] == '%' && !bareNumber.MatchString(last):
		case t[0] == '.' && (!bareNumber.MatchString(last) || strings.Contains(last, ".")):
		case wordEnd.MatchString(last) && wordStart.MatchString(t):
			out += "/**/"
		}
		out += t
		last, blank = t, false
	}
	return out
}

// put references in.
func put(text string, look func(string) (string, bool)) (string, bool) {
	r := &reading{tokens: cutTokens(text), look: look}
	list, ok := r.fill(true)
	told := joined(list)
	return told, ok && !r.bad && told != "" && len(told) <= api.MaxSteps
}

func refers(text string) []string {
	r := &reading{tokens: cutTokens(text), look: func(string) (string, bool) { return "", false }}
	r.fill(true)
	return r.names
}

// leads: whether some way goes from a name to another one.
func leads(won map[string]string, from, to string, seen map[string]bool) bool {
	if seen[from] {
		return false
	}
	seen[from] = true
	for _, name := range refers(won[from]) {
		if name == to || leads(won, name, to, seen) {
			return true
		}
	}
	return false
}

func (p *page) own(id int, won map[string]string) map[string]string {
	var value func(name string) (string, bool)
	value = func(name string) (string, bool) {
		text, own := won[name]
		if !own {
			text, ok := p.vars[p.parent(id)][name]
			return text, ok
		}
		onRing := false
		for _, next := range refers(text) {
			_, isOwn := won[next]
			onRing = onRing || isOwn && (next == name || leads(won, next, name, map[string]bool{}))
		}
		if onRing {
			return "", false
		}
		return put(text, value)
	}
	there := map[string]string{}
	for _, names := range []map[string]string{p.vars[p.parent(id)], won} {
		for name := range names {
			if text, ok := value(name); ok && strings.HasPrefix(name, "--") {
				there[name] = text
			}
		}
	}
	return there
}

// parent that has a style; -1: none.
func (p *page) parent(id int) int {
	if id == p.root || p.Kind(p.Parent(id)) != api.Element {
		return -1
	}
	return p.Parent(id)
}

// text that a property is told at last; "parent": that of the parent.
func (p *page) told(id int, r row, won map[string]string) string {
	value, ok := won[r.name]
	if ok && len(refersAny(value)) > 0 {
		name := r.name
		if strings.HasPrefix(value, "?") {
			name, value, _ = strings.Cut(value[1:], ": ")
		}
		value, ok = put(value, func(n string) (string, bool) { v, ok := p.vars[id][n]; return v, ok })
		if ok {
			pairs, _ := Parse(name, value)
			ok = false
			for _, pair := range pairs {
				if pair.Name == r.name {
					value, ok = pair.Value, true
				}
			}
		}
	}
	switch {
	case ok && value == "inherit", (!ok || value == "unset") && r.down:
		return "parent"
	case !ok || value == "unset" || value == "initial":
		return r.first
	}
	return value
}

var anyVar = regexp.MustCompile(`(?i)(^|[^a-z-])var\(`)

func refersAny(text string) []string { return anyVar.FindAllString(text, -1) }

func floored(r *big.Rat) int {
	n := new(big.Int).Div(r.Num(), r.Denom())
	if n.CmpAbs(big.NewInt(api.MaxLen)) > 0 {
		return n.Sign() * api.MaxLen
	}
	return int(n.Int64())
}

var measured = regexp.MustCompile(`^(-?[0-9.]+)(px|em|%|fr|)$`)

// worth of a text, as it is shown.
func worth(text, name string, size int, color string) string {
	if text == "currentcolor" {
		return color
	}
	if text == "transparent" {
		return "#-1"
	}
	if strings.HasPrefix(text, "#") {
		return "#" + strings.TrimLeft(text[1:6], "0") + map[bool]string{true: "0", false: text[6:]}[text == "#000000"]
	}
	if strings.HasPrefix(text, `"`) {
		return text + " 0"
	}
	if strings.HasPrefix(name, "counter-") && text != "none" {
		words := strings.Fields(text)
		return fmt.Sprintf("%q %s", words[0], words[1])
	}
	if strings.HasPrefix(name, "grid-template-") && text != "none" {
		out := "tracks"
		for _, w := range strings.Fields(text) {
			out += " " + strings.Replace(worth(w, "", size, ""), "n", "f", 1)
		}
		return out
	}
	m := measured.FindStringSubmatch(text)
	if m == nil {
		return text
	}
	n, _ := new(big.Rat).SetString(m[1])
	times := func(by, over int64) string {
		return fmt.Sprint("l", floored(new(big.Rat).Mul(n, big.NewRat(by, over))))
	}
	thousand := new(big.Rat).Mul(n, big.NewRat(1000, 1)).Num()
	switch {
	case m[2] == "px":
		return times(64, 1)
	case m[2] == "em":
		return times(int64(size), 1)
	case m[2] == "%" && (name == "font-size" || name == "line-height"):
		return times(int64(size), 100)
	case m[2] == "%":
		return "p" + thousand.String()
	}
	return "n" + thousand.String()
}

func (p *page) style(id int) {
	won := map[string]string{}
	for _, d := range p.declarations(id) {
		won[d.Name] = d.Value
	}
	p.vars[id] = p.own(id, won)
	parent := p.values[p.parent(id)]
	all := make([]string, api.Properties)
	size := func(list []string) int {
		n := 0
		fmt.Sscanf(list[api.PSize], "l%d", &n)
		return n
	}
	work := func(r row, size int, color string) string {
		told := p.told(id, r, won)
		if told == "parent" {
			return parent[number(r.name)]
		}
		return worth(told, r.name, size, color)
	}
	list := rows()
	all[api.PSize] = work(list[api.PSize], size(parent), "")
	all[api.PColor] = work(list[api.PColor], 0, "")
	for i, r := range list {
		if i != api.PSize && i != api.PColor {
			all[i] = work(r, size(all), all[api.PColor])
		}
	}
	out := all[api.PPosition] == "absolute" || all[api.PPosition] == "fixed"
	if out {
		all[api.PFloat] = "none"
	}
	if out || all[api.PFloat] != "none" || p.parent(id) < 0 {
		if d := all[api.PDisplay]; d == "inline" || d == "inline-block" || d == "contents" && p.parent(id) < 0 {
			all[api.PDisplay] = "block"
		}
	}
	p.values[id] = all
}

func (p *page) hold(t *testing.T, said string) {
	t.Helper()
	p.values, p.vars = map[int][]string{}, map[int]map[string]string{}
	p.values[-1] = make([]string, api.Properties)
	for i, r := range rows() {
		p.values[-1][i] = firstShown(r.first)
	}
	ids, styles := Styles(p.Tree, p.root, p.list, p.view)
	at := 0
	for _, id := range p.Under(p.root) {
		if p.Kind(id) != api.Element {
			continue
		}
		if at == len(ids) || ids[at] != id {
			t.Fatalf("%s: %v", said, ids)
		}
		p.style(id)
		for i, r := range rows() {
			if got := shown(styles[at].V[i]); got != p.values[id][i] {
				t.Fatalf("%s\n%s of %d: %s, want %s", said, r.name, id, got, p.values[id][i])
			}
		}
		var names []string
		for name, value := range p.vars[id] {
			names = append(names, name+":"+value)
		}
		slices.SortFunc(names, func(a, b string) int {
			a, _, _ = strings.Cut(a, ":")
			b, _, _ = strings.Cut(b, ":")
			return strings.Compare(a, b)
		})
		if got := styles[at].vars(); got != strings.Join(names, "; ") {
			t.Fatalf("%s\nof %d: %s, want %s", said, id, got, strings.Join(names, "; "))
		}
		at++
	}
	if at != len(ids) || at != len(styles) {
		t.Fatalf("%s: %v", said, ids)
	}
}

// chance makes pages.
type chance struct{ *rand.Rand }

func (c chance) of(texts ...string) string { return texts[c.Intn(len(texts))] }

func (c chance) element(deep int) string {
	tag := c.of("a", "b", "c")
	text := "<" + tag
	if c.Intn(3) == 0 {
		text += c.of(" id=i", " class=k", " class='k j'", " id=i class=k")
	}
	if c.Intn(3) == 0 {
		text += " style='" + strings.ReplaceAll(c.declarations(), "'", "") + "'"
	}
	text += ">" + c.of("", "", "x", "<!--y-->")
	for deep > 0 && c.Intn(3) > 0 {
		text += c.element(deep - 1)
	}
	return text + "</" + tag + ">"
}

func (c chance) rules() string {
	text := ""
	for range c.Intn(5) {
		rule := c.of("*", "a", "b", "c", ".k", "#i", "a b", "b, #i", "a > c, .k", ":hover", "a:focus, :root", "nope(", "a:not(.k)", "*:first-child", ".k.j, c", "a,,b") + "{" + c.declarations() + "}"
		if c.Intn(6) == 0 {
			rule = "@media " + c.of("print", "screen", "(min-width:5px)", "(max-height:3px)", "x") + "{" + rule + "}"
		}
		text += rule
	}
	return text
}

func (c chance) declarations() string {
	text := ""
	for range c.Intn(5) {
		text += c.declaration() + c.of("", "", "", " !important") + ";"
	}
	return text
}

func (c chance) declaration() string {
	if c.Intn(2) == 0 {
		return c.of("--x", "--y", "--z", "--", "--x", "--y") + ":" + c.value(3)
	}
	name := allNames()[c.Intn(len(allNames()))]
	if c.Intn(2) == 0 {
		name = c.of("color", "border-color", "font-size", "width", "line-height", "display", "float", "position", "margin", "border", "flex", "margin-left", "background", "text-indent", "grid-template-rows", "counter-reset", "content")
	}
	if c.Intn(3) == 0 {
		return name + ":" + c.value(2)
	}
	words := ""
	for range 1 + c.Intn(2)*c.Intn(3) {
		words += c.word() + " "
	}
	return name + ":" + words
}

func (c chance) word() string {
	return c.of("1px", "2em", "50%", "0", "1", "1.5", "-3", "-0.5em", "-7%", "auto", "none", "red", "currentcolor", "transparent", "#abc", "inherit", "initial", "unset", "block", "inline", "inline-block", "contents", "flex", "left", "right", "absolute", "fixed", "normal", "n", "\"s\"", "counter(n)", "1fr", "hidden", "center", "1000000px", "0.1em", "33.333%")
}

// value with references.
func (c chance) value(deep int) string {
	text := ""
	for range 1 + c.Intn(3) {
		kind := c.Intn(8)
		switch {
		case kind < 3:
			text += c.word()
		case kind < 5:
			text += c.of("var(", "var( ", "VAR(") + c.of("--x", "--y", "--z", "--", "--q", "x") + c.of("", " ", "", "", "", "", " 1") + ")"
		case kind == 5 && deep > 0:
			text += c.of("f(", "[ ", "[") + c.value(deep-1) + "]"
			if strings.Contains(text[:len(text)-1], "f(") {
				text = strings.ReplaceAll(text, "f(", "[")
			}
		case deep > 0:
			text += "var(" + c.of("--x", "--y", "--z", "--q") + c.of(",", " ,", ", ") + c.of("", c.value(deep-1), c.value(deep-1)) + ")"
		}
		text += c.of(" ", "", " ", "/**/", ",", " ")
	}
	return text
}

func (c chance) page() (*page, string) {
	text := ""
	for range 1 + c.Intn(2) {
		text += c.element(2)
	}
	d, err := markup.Read(text)
	if err != nil {
		return nil, ""
	}
	p := &page{Tree: d, view: View{c.Intn(640), c.Intn(640), choose.State{Hover: []int{c.Intn(5)}, Focus: []int{c.Intn(5)}}}, root: c.Intn(3)}
	for range c.Intn(4) {
		rules := c.rules()
		s, err := sheet.Read(rules)
		if err != nil {
			return nil, ""
		}
		base := c.Intn(3) == 0
		p.list = append(p.list, Source{s, base})
		text += fmt.Sprintf("\n%v: %s", base, rules)
	}
	return p, text
}

func TestStylesAreToldTwice(t *testing.T) {
	c := chance{rand.New(rand.NewSource(64))}
	for range 3000 {
		if p, said := c.page(); p != nil {
			p.hold(t, said)
		}
	}
}

// holdText: whatever a value is, no call panics, and what it is told as is told as the same.
func holdText(t *testing.T, name, value string) {
	t.Helper()
	pairs, ok := Parse(name, value)
	if ok != (len(pairs) > 0) {
		t.Fatalf("%s: %q: %v %v", name, value, pairs, ok)
	}
	for _, p := range pairs {
		again, _ := Parse(p.Name, p.Value)
		if len(again) != 1 || again[0] != p {
			t.Fatalf("%s: %q: %v, then %v", name, value, p, again)
		}
	}
	s := &sheet.Sheet{Rules: []sheet.Rule{{Head: "*", Decls: []sheet.Decl{{Name: name, Value: value}, {Name: "--x", Value: value}, {Name: "--y", Value: "a " + value}, {Name: "width", Value: value + "var(--x)"}, {Name: "margin", Value: "var(--y," + value}}}}}
	d := tree.New()
	id, _ := d.Element("a")
	d.Put(0, id, 0)
	_, styles := Styles(d, 0, []Source{{s, false}}, View{})
	if len(styles) != 1 || len(styles[0].V) != api.Properties {
		t.Fatalf("%s: %q: %v", name, value, styles)
	}
	for _, v := range styles[0].V {
		if v.Kind == api.VNone {
			t.Fatalf("%s: %q: %v", name, value, styles[0].V)
		}
	}
}

func FuzzParse(f *testing.F) {
	for i, value := range wrongSamples() {
		f.Add(byte(i), value)
	}
	for i, value := range []string{"var(--x)", "var(--x, a [b", "\"\n var(--x) '", "VAR( --y ,) ) ]", "/**/1px/**/", "counter( x", "'a\"\\", "#AbC", "-.50em 2% auto 1FR"} {
		f.Add(byte(i*7), value)
	}
	f.Fuzz(func(t *testing.T, at byte, value string) {
		names := append(allNames(), "--x", "--q")
		holdText(t, names[int(at)%len(names)], value)
	})
}

func FuzzStyles(f *testing.F) {
	f.Add(int64(1))
	f.Fuzz(func(t *testing.T, seed int64) {
		c := chance{rand.New(rand.NewSource(seed))}
		if p, said := c.page(); p != nil {
			p.hold(t, said)
		}
	})
}
