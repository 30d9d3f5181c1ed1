package markup

import (
	"errors"
	"fmt"
	"regexp"
	"slices"
	"strconv"
	"strings"
	"testing"

	"casement/api"
	"casement/tree"
)

// The model is a second telling of the chapter: pieces by regular expressions, start tags by states, the table by its words.

const bl = `\t\n\f\r `

var (
	mComment = regexp.MustCompile(`\A(?s:<!--(.*?)(?:-->|\z))`)
	mNothing = regexp.MustCompile(`\A<[!?][^>]*>?`)
	mEnd     = regexp.MustCompile(`\A</([A-Za-z][^` + bl + `/>]*)[^>]*(>?)`)
	mStart   = regexp.MustCompile(`\A<[A-Za-z]`)
	mText    = regexp.MustCompile(`<(?:[!?]|/?[A-Za-z])`)
	mRef     = regexp.MustCompile(`&(?:(amp|lt|gt|quot|apos|nbsp|shy|zwsp)|#([0-9]+)|#[xX]([0-9a-fA-F]+));`)
	mRaw     = map[string]*regexp.Regexp{
		"style":  regexp.MustCompile(`</[sS][tT][yY][lL][eE](?:[` + bl + `/>]|\z)`),
		"script": regexp.MustCompile(`</[sS][cC][rR][iI][pP][tT](?:[` + bl + `/>]|\z)`),
	}
	mName  = regexp.MustCompile(`\A[a-z][a-z0-9_:-]{0,39}\z`)
	mTable = []string{
		"li | li | ul, ol",
		"dt, dd | dt, dd | dl",
		"option | option | select",
		"tr | tr | table",
		"td, th | td, th | tr, table",
		"div, p, ul, ol, dl, table, h1, h2, h3, pre, section, form, hr | p | td, th, li, div, section, button",
	}
)

const mVoid = "br, hr, img, input, link, meta, wbr"

// named: a word is one of a list.
func named(list, word string) bool {
	return slices.Contains(strings.Split(list, ", "), word)
}

func mLower(s string) string {
	return regexp.MustCompile(`[A-Z]+`).ReplaceAllStringFunc(s, strings.ToLower)
}

func mResolve(s string) string {
	return mRef.ReplaceAllStringFunc(s, func(ref string) string {
		m := mRef.FindStringSubmatch(ref)
		if m[1] != "" {
			return map[string]string{"amp": "&", "lt": "<", "gt": ">", "quot": `"`, "apos": "'", "nbsp": "\u00a0", "shy": "\u00ad", "zwsp": "\u200b"}[m[1]]
		}
		base := 10
		if m[3] != "" {
			base = 16
		}
		n, err := strconv.ParseUint(m[2]+m[3], base, 32)
		if err != nil || n == 0 || n > 0x10FFFF || n >= 0xD800 && n <= 0xDFFF {
			return "\ufffd"
		}
		return string(rune(n))
	})
}

// mStartTag: a start tag that a text begins with, by states; how long it is (-1: it has no end).
func mStartTag(s string) (name string, attrs []api.Attr, size int) {
	const (
		inName = iota
		ahead  // of an attribute
		attr
		behind // an attribute's name
		equal  // behind =
		bare   // a value without strokes
	)
	var a api.Attr
	var value string
	state := inName
	done := func() {
		a.Name, a.Value = mLower(a.Name), mResolve(value)
		if mName.MatchString(a.Name) && !slices.ContainsFunc(attrs, func(b api.Attr) bool { return b.Name == a.Name }) {
			attrs = append(attrs, a)
		}
		a, value, state = api.Attr{}, "", ahead
	}
	for i := 1; i < len(s); i++ {
		c := s[i : i+1]
		isBlank, isSlash, isEnd := strings.Contains("\t\n\f\r ", c), c == "/", c == ">"
		if state == behind && !isBlank && c != "=" {
			done()
		}
		if state == attr && (isSlash || isEnd) || (state == bare || state == equal) && isEnd || state == bare && isBlank {
			done()
		}
		if isEnd {
			return mLower(name), attrs, i + 1
		}
		switch state {
		case inName:
			if isBlank || isSlash {
				state = ahead
			} else {
				name += c
			}
		case ahead:
			if !isBlank && !isSlash {
				a.Name, state = c, attr
			}
		case attr:
			switch {
			case isBlank:
				state = behind
			case c == "=":
				state = equal
			default:
				a.Name += c
			}
		case behind:
			if c == "=" {
				state = equal
			}
		case equal:
			if c == `"` || c == "'" {
				n := strings.Index(s[i+1:], c)
				if n < 0 {
					return "", nil, -1
				}
				value = s[i+1 : i+1+n]
				i += n + 1
				done()
			} else if !isBlank {
				value, state = c, bare
			}
		case bare:
			value += c
		}
	}
	return "", nil, -1
}

// mNode is a node of the model.
type mNode struct {
	kind       int
	tag, words string
	attrs      []api.Attr
	kids       []*mNode
}

func (n *mNode) show() string {
	var l []string
	for _, k := range n.kids {
		switch k.kind {
		case api.Text:
			l = append(l, fmt.Sprintf("%q", k.words))
		case api.Comment:
			l = append(l, fmt.Sprintf("!%q", k.words))
		default:
			s := k.tag
			for _, a := range k.attrs {
				s += fmt.Sprintf(" %s=%q", a.Name, a.Value)
			}
			l = append(l, s+"("+k.show()+")")
		}
	}
	return strings.Join(l, " ")
}

// model of what is being read.
type model struct {
	open  []*mNode // the document first
	nodes int
	fault int // -1: none
}

func (m *model) add(at int, n *mNode) {
	if m.nodes == api.MaxNodes && m.fault < 0 {
		m.fault = at
	}
	m.nodes++
	inner := m.open[len(m.open)-1]
	inner.kids = append(inner.kids, n)
}

func (m *model) text(at int, s string) {
	inner := m.open[len(m.open)-1]
	if k := len(inner.kids); k > 0 && inner.kids[k-1].kind == api.Text {
		inner.kids[k-1].words += s
	} else if s != "" {
		m.add(at, &mNode{kind: api.Text, words: s})
	}
}

func (m *model) start(at int, tag string, attrs []api.Attr) {
	if !mName.MatchString(tag) {
		return
	}
	for _, line := range mTable {
		l := strings.Split(line, " | ")
		if named(l[0], tag) {
			m.close(l[1], l[2])
		}
	}
	n := &mNode{kind: api.Element, tag: tag, attrs: attrs}
	m.add(at, n)
	if !named(mVoid, tag) && len(m.open) <= api.MaxDeep {
		m.open = append(m.open, n)
	}
}

func (m *model) close(tags, upTo string) {
	for i := len(m.open) - 1; i > 0 && !named(upTo, m.open[i].tag); i-- {
		if named(tags, m.open[i].tag) {
			m.open = m.open[:i]
			return
		}
	}
}

// modelRead: what is read of a text, shown; or where it is too much.
func modelRead(s string) (string, int) {
	if len(s) > api.MaxText {
		return "", api.MaxText
	}
	document := &mNode{kind: api.Document}
	m := &model{open: []*mNode{document}, nodes: 1, fault: -1}
	for at := 0; at < len(s); {
		at = m.step(s, at)
	}
	if m.fault >= 0 {
		return "", m.fault
	}
	return document.show(), -1
}

// step takes the piece at a place; where the next one begins.
func (m *model) step(s string, at int) int {
	rest := s[at:]
	if l := mComment.FindStringSubmatch(rest); l != nil {
		m.add(at, &mNode{kind: api.Comment, words: l[1]})
		return at + len(l[0])
	}
	if l := mNothing.FindString(rest); l != "" {
		return at + len(l)
	}
	if l := mEnd.FindStringSubmatch(rest); l != nil {
		if l[2] != "" {
			m.close(mLower(l[1]), "")
		}
		return at + len(l[0])
	}
	if mStart.MatchString(rest) {
		tag, attrs, size := mStartTag(rest)
		if size < 0 {
			return len(s)
		}
		m.start(at, tag, attrs)
		if end := mRaw[tag]; end != nil {
			rest = rest[size:]
			n := len(rest)
			if l := end.FindStringIndex(rest); l != nil {
				n = l[0]
			}
			m.text(at+size, rest[:n])
			return at + size + n
		}
		return at + size
	}
	n := len(rest)
	if l := mText.FindStringIndex(rest); l != nil {
		n = l[0]
	}
	m.text(at, mResolve(rest[:n]))
	return at + n
}

// sayable: there is a text (however long) of which a document with these kids is read. The rules are told one by one.
func sayable(d *tree.Tree, id int, open []string) bool {
	kids := d.Kids(id)
	for i, k := range kids {
		switch d.Kind(k) {
		case api.Text:
			if d.Words(k) == "" || i > 0 && d.Kind(kids[i-1]) == api.Text {
				return false
			}
		case api.Comment:
			if strings.Contains(d.Words(k), "-->") {
				return false
			}
		default:
			if !sayableElement(d, k, open) {
				return false
			}
		}
	}
	return true
}

func sayableElement(d *tree.Tree, id int, open []string) bool {
	tag, kids := d.Tag(id), d.Kids(id)
	m := &model{open: []*mNode{{}}}
	for _, o := range open {
		m.open = append(m.open, &mNode{tag: o})
	}
	for _, line := range mTable {
		l := strings.Split(line, " | ")
		if named(l[0], tag) {
			m.close(l[1], l[2])
		}
	}
	if len(m.open) != len(open)+1 {
		return false
	}
	if named(mVoid, tag) || len(open) == api.MaxDeep {
		return len(kids) == 0
	}
	if end := mRaw[tag]; end != nil {
		return len(kids) == 0 || len(kids) == 1 && d.Kind(kids[0]) == api.Text && d.Words(kids[0]) != "" && !end.MatchString(d.Words(kids[0])+"<")
	}
	return sayable(d, id, append(slices.Clone(open), tag))
}

// plainLength: how long a text is that writes each mark as a reference.
func plainLength(d *tree.Tree, id int) int {
	n := 0
	marks := strings.NewReplacer("<", "&lt;", ">", "&gt;", "&", "&amp;", `"`, "&quot;")
	for _, k := range d.Kids(id) {
		switch d.Kind(k) {
		case api.Text:
			n += len(marks.Replace(d.Words(k)))
		case api.Comment:
			n += len("<!---->") + len(d.Words(k))
		default:
			n += len("<></>") + 2*len(d.Tag(k)) + plainLength(d, k)
			for _, a := range d.Attrs(k) {
				n += len(` =""`) + len(a.Name) + len(marks.Replace(a.Value))
			}
		}
	}
	return n
}

// checkWrite holds Write against what it promises of a node.
func checkWrite(t *testing.T, d *tree.Tree, id int) {
	t.Helper()
	text, err := Write(d, id)
	if err == nil {
		e, err := Read(text)
		if err != nil || show(e, 0) != show(d, id) {
			t.Errorf("Write of %.400s: %.400q", show(d, id), text)
		}
		return
	}
	if !errors.Is(err, api.ErrShape) || text != "" || sayable(d, id, nil) && plainLength(d, id) <= api.MaxText/2 {
		t.Errorf("Write of %.400s: %.400q, %v", show(d, id), text, err)
	}
}

// checkRead holds Read against the model, and Write against Read.
func checkRead(t *testing.T, text string) {
	t.Helper()
	want, at := modelRead(text)
	if at >= 0 {
		fails(t, text, at)
		return
	}
	d := read(t, text)
	if got := show(d, 0); got != want {
		t.Errorf("Read(%.400q):\n got %.400s\nwant %.400s", text, got, want)
	}
	if !sayable(d, 0, nil) {
		t.Errorf("Read(%.400q): no text is of %.400s", text, want)
	}
	for _, id := range d.Under(0) {
		if d.Kind(id) == api.Document || d.Kind(id) == api.Element {
			checkWrite(t, d, id)
		}
	}
}

// scrap of markup, told by a number.
func scrap(n int) string {
	l := []string{
		"<", ">", "/", "=", `"`, "'", "&", ";", "#", "!", "-", "?", " ", "\n", "\f", "\v", "a", "B", "1", ":", ".", "\u00e9", "\xff", "\u212a",
		"<!--", "-->", "<!", "<?", "</", "<a ", "<b>", "</b>", "</a", " b=", " c='", " D=\"", "&lt;", "&amp;", "&#65;", "&#x41;", "&#", "&#x", "&#0;",
		"<style>", "</style>", "</STYLE ", "<script>", "</script", "</script>", "<br>", "<hr>", "</p>",
		"<p>", "<p>", "<div>", "</div>", "<li>", "<ul>", "</ul>", "<dt>", "<dd>", "<dl>", "<option>", "<select>", "<tr>", "<td>", "<th>", "<table>", "</table>", "<section>", "<button>", "<form>", "<h1>", "</li>", "</td>", "<input/>",
	}
	return l[n%len(l)]
}

// numbers that a fixed rule tells.
func numbers(seed uint32) func() int {
	return func() int {
		seed = seed*1664525 + 1013904223
		return int(seed >> 16)
	}
}

func TestModelRead(t *testing.T) {
	next := numbers(1)
	for i := range 10000 {
		var s strings.Builder
		for range next() % (2 + i%40) {
			s.WriteString(scrap(next()))
		}
		checkRead(t, s.String())
	}
	for range 40 {
		var s strings.Builder
		for range 300 + next()%1500 {
			s.WriteString(scrap(next()))
		}
		checkRead(t, s.String())
	}
}

// wild tree: of all that a tree may have, told by numbers.
func wild(next func() int) *tree.Tree {
	tags := []string{"b", "b", "b", "p", "div", "li", "ul", "td", "tr", "button", "style", "script", "br", "hr"}
	texts := []string{"x", "x", "y<", "&amp;", "", "</style>", "</script", "-->", "--", `"`}
	d := tree.New()
	for range next() % 12 {
		var id int
		switch next() % 4 {
		case 0:
			id, _ = d.Text(texts[next()%len(texts)])
		case 1:
			id, _ = d.Comment(texts[next()%len(texts)])
		default:
			id, _ = d.Element(tags[next()%len(tags)])
			if next()%3 == 0 {
				d.Set(id, tags[next()%len(tags)], texts[next()%len(texts)])
			}
		}
		parent := next() % (id + 1)
		d.Put(parent, id, next()%(len(d.Kids(parent))+1))
		if d.Parent(id) < 0 {
			d.Put(0, id, 0)
		}
	}
	return d
}

func TestModelWrite(t *testing.T) {
	next := numbers(2)
	said := 0
	for range 20000 {
		d := wild(next)
		for _, id := range d.Under(0) {
			if d.Kind(id) == api.Document || d.Kind(id) == api.Element {
				checkWrite(t, d, id)
			}
		}
		if sayable(d, 0, nil) {
			said++
		}
	}
	if said < 2000 || said > 18000 {
		t.Errorf("%d of the trees have a text: the test is too dull", said)
	}
}

// TestAllSmall: of all trees with a few nodes just those have a text that are read of one of all texts of a few tags.
func TestAllSmall(t *testing.T) {
	for _, tags := range [][]string{{"p", "div", "button", "hr"}, {"li", "ul", "p", "b"}, {"td", "tr", "table"}, {"dt", "dd", "dl", "option"}, {"style", "script", "b", "br"}} {
		tokens := []string{"x"}
		for _, tag := range tags {
			tokens = append(tokens, "<"+tag+">", "</"+tag+">")
		}
		seen := map[string]bool{}
		var texts func(s string, n int)
		texts = func(s string, n int) {
			seen[show(read(t, s), 0)] = true
			for i := 0; n > 0 && i < len(tokens); i++ {
				texts(s+tokens[i], n-1)
			}
		}
		texts("", 5)
		for _, s := range forests(append([]string{`"x"`}, tags...), 3) {
			_, err := Write(build(t, s), 0)
			if (err == nil) != seen[s] {
				t.Errorf("%s: %v, but some text has it: %v", s, err, seen[s])
			}
		}
	}
}

// forests: all lists of trees, of so many nodes at most, as show tells them.
func forests(names []string, most int) []string {
	out := []string{""}
	for n := 1; n <= most; n++ {
		for _, name := range names {
			for inner := range n {
				if name[0] == '"' && inner > 0 {
					break
				}
				for _, kids := range forestsOf(names, inner) {
					for _, rest := range forestsOf(names, n-1-inner) {
						s := name
						if name[0] != '"' {
							s += "(" + kids + ")"
						}
						out = append(out, strings.TrimRight(s+" "+rest, " "))
					}
				}
			}
		}
	}
	return out
}

// forestsOf: those of just so many nodes.
func forestsOf(names []string, n int) []string {
	if n == 0 {
		return []string{""}
	}
	return forests(names, n)[len(forests(names, n-1)):]
}

func FuzzRead(f *testing.F) {
	for i := range 80 {
		f.Add(scrap(i) + "<a b='c'" + scrap(7*i) + ">x" + scrap(13*i))
	}
	f.Fuzz(func(t *testing.T, text string) {
		checkRead(t, text)
	})
}

func FuzzWrite(f *testing.F) {
	f.Add([]byte{7, 2, 3, 0, 0, 0, 2, 4, 0, 1, 0})
	f.Fuzz(func(t *testing.T, list []byte) {
		i := 0
		d := wild(func() int {
			if i == len(list) {
				return 0
			}
			i++
			return int(list[i-1])
		})
		checkWrite(t, d, 0)
	})
}
