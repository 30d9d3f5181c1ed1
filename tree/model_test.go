package tree

import (
	"fmt"
	"strings"
	"testing"

	"casement/api"
)

// tell all that looks tell of a tree.
func tell(d *Tree) string {
	var s strings.Builder
	fmt.Fprintln(&s, d.Size())
	for id := -1; id <= d.Size(); id++ {
		fmt.Fprintln(&s, id, d.Kind(id), d.Tag(id), len(d.Words(id)), d.Words(id), d.Attrs(id), d.Parent(id), d.Kids(id), d.Under(id))
	}
	return s.String()
}

// The model is a second telling of the chapter, in which a change is undone by going back to a copy of all that was.
type modelNode struct {
	kind       int
	tag, words string
	attrs      string // "name=value;" each
	parent     int
	kids       string // "id," each
}

type model struct {
	now  []modelNode
	past [][]modelNode
}

func (m *model) save() {
	m.past = append(m.past, append([]modelNode(nil), m.now...))
}

func (m *model) has(id int) bool { return id >= 0 && id < len(m.now) }

func (m *model) make(n modelNode) (int, error) {
	if n.kind == api.Element && !Name(n.tag) {
		return 0, api.ErrName
	}
	if len(m.now) == api.MaxNodes {
		return 0, api.ErrBound
	}
	m.save()
	n.parent = -1
	m.now = append(m.now, n)
	return len(m.now) - 1, nil
}

func (m *model) list(id int) []string {
	l := strings.Split(m.now[id].kids, ",")
	return l[:len(l)-1]
}

func (m *model) under(id int) []int {
	out := []int{id}
	for _, k := range m.list(id) {
		var kid int
		fmt.Sscan(k, &kid)
		out = append(out, m.under(kid)...)
	}
	return out
}

func (m *model) cutOut(id int) {
	if p := m.now[id].parent; p >= 0 {
		all := "," + m.now[p].kids
		m.now[p].kids = strings.Replace(all, fmt.Sprintf(",%d,", id), ",", 1)[1:]
		m.now[id].parent = -1
	}
}

func (m *model) put(parent, id, at int) error {
	if !m.has(parent) || !m.has(id) {
		return api.ErrNode
	}
	if id == 0 || m.now[parent].kind > api.Element {
		return api.ErrPlace
	}
	for _, inner := range m.under(id) {
		if inner == parent {
			return api.ErrPlace
		}
	}
	m.save()
	m.cutOut(id)
	l := m.list(parent)
	if at < 0 || at > len(l) {
		m.undo()
		return api.ErrPlace
	}
	l = append(l[:at:at], append([]string{fmt.Sprint(id)}, l[at:]...)...)
	m.now[parent].kids = strings.Join(l, ",") + ","
	m.now[id].parent = parent
	return nil
}

func (m *model) take(id int) error {
	if !m.has(id) {
		return api.ErrNode
	}
	if m.now[id].parent < 0 {
		return api.ErrPlace
	}
	m.save()
	m.cutOut(id)
	return nil
}

func (m *model) element(id int) error {
	if !m.has(id) {
		return api.ErrNode
	}
	if m.now[id].kind != api.Element {
		return api.ErrPlace
	}
	return nil
}

// attr: where an attribute begins and ends; -1: nowhere.
func (m *model) attr(id int, name string) (int, int) {
	s := ";" + m.now[id].attrs
	from := strings.Index(s, ";"+name+"=")
	if from < 0 {
		return -1, -1
	}
	return from, from + strings.Index(s[from+1:], ";") + 1
}

func (m *model) set(id int, name, value string) error {
	if err := m.element(id); err != nil {
		return err
	}
	if !Name(name) {
		return api.ErrName
	}
	m.save()
	s := m.now[id].attrs
	if from, to := m.attr(id, name); from >= 0 {
		m.now[id].attrs = s[:from] + name + "=" + value + ";" + s[to:]
		return nil
	}
	m.now[id].attrs = s + name + "=" + value + ";"
	return nil
}

func (m *model) unset(id int, name string) error {
	if err := m.element(id); err != nil {
		return err
	}
	from, to := m.attr(id, name)
	if from < 0 {
		return api.ErrName
	}
	m.save()
	m.now[id].attrs = m.now[id].attrs[:from] + m.now[id].attrs[to:]
	return nil
}

func (m *model) say(id int, text string) error {
	if !m.has(id) {
		return api.ErrNode
	}
	if m.now[id].kind < api.Text {
		return api.ErrPlace
	}
	m.save()
	m.now[id].words = text
	return nil
}

func (m *model) copy(id int) (int, error) {
	if !m.has(id) {
		return 0, api.ErrNode
	}
	if id == 0 {
		return 0, api.ErrPlace
	}
	if len(m.now)+len(m.under(id)) > api.MaxNodes {
		return 0, api.ErrBound
	}
	m.save()
	return m.double(id, -1), nil
}

func (m *model) double(id, parent int) int {
	n := m.now[id]
	kids := m.list(id)
	n.parent, n.kids = parent, ""
	m.now = append(m.now, n)
	at := len(m.now) - 1
	for _, k := range kids {
		var kid int
		fmt.Sscan(k, &kid)
		m.now[at].kids += fmt.Sprint(m.double(kid, at)) + ","
	}
	return at
}

func (m *model) undo() bool {
	if len(m.past) == 0 {
		return false
	}
	m.now = m.past[len(m.past)-1]
	m.past = m.past[:len(m.past)-1]
	return true
}

func (m *model) order(a, b int) (int, bool) {
	if !m.has(a) || !m.has(b) {
		return 0, false
	}
	root := a
	for m.now[root].parent >= 0 {
		root = m.now[root].parent
	}
	if a == b {
		return 0, true
	}
	found := 0
	for _, id := range m.under(root) {
		if id == a && found == 0 {
			found = -1
		}
		if id == b {
			if found == 0 {
				found = 1
			}
			return found, true
		}
	}
	return 0, false
}

func (m *model) tell() string {
	var s strings.Builder
	fmt.Fprintln(&s, len(m.now))
	none := "0  0  [] -1 [] []"
	fmt.Fprintln(&s, -1, none)
	for id, n := range m.now {
		var attrs []string
		for _, a := range strings.SplitAfter(n.attrs, ";") {
			if a != "" {
				name, value, _ := strings.Cut(strings.TrimSuffix(a, ";"), "=")
				attrs = append(attrs, "{"+name+" "+value+"}")
			}
		}
		fmt.Fprintln(&s, id, n.kind, n.tag, len(n.words), n.words, attrs, n.parent, m.list(id), m.under(id))
	}
	fmt.Fprintln(&s, len(m.now), none)
	return s.String()
}

// step does one change, told by four bytes, to a tree and to the model; what both answer.
func step(d *Tree, m *model, op, x, y, z byte) (string, string) {
	names := []string{"a", "b", "ab", "c-1", "A", "", "a="}
	name, value := names[int(y)%len(names)], strings.Repeat("v", int(z)%4)
	a, b, at := int(x)%(len(m.now)+2)-1, int(y)%(len(m.now)+2)-1, int(z)%6-1
	say := func(l ...any) string { return fmt.Sprint(l...) }
	pair := func(l ...any) string { return fmt.Sprintln(l...) }
	switch op % 16 {
	case 0, 1:
		i, e := d.Element(name)
		j, f := m.make(modelNode{kind: api.Element, tag: name})
		return pair(i, e), pair(j, f)
	case 2:
		i, e := d.Text(value)
		j, f := m.make(modelNode{kind: api.Text, words: value})
		return pair(i, e), pair(j, f)
	case 3:
		i, e := d.Comment(value)
		j, f := m.make(modelNode{kind: api.Comment, words: value})
		return pair(i, e), pair(j, f)
	case 4, 5, 6, 7:
		return say(d.Put(a, b, at)), say(m.put(a, b, at))
	case 8:
		return say(d.Take(a)), say(m.take(a))
	case 9, 10:
		return say(d.Set(a, name, value)), say(m.set(a, name, value))
	case 11:
		return say(d.Unset(a, name)), say(m.unset(a, name))
	case 12:
		return say(d.Say(a, value)), say(m.say(a, value))
	case 13:
		i, e := d.Copy(a)
		j, f := m.copy(a)
		return pair(i, e), pair(j, f)
	case 14:
		i, e := d.Order(a, b)
		j, f := m.order(a, b)
		return pair(i, e), pair(j, f)
	}
	if x%32 == 0 {
		d.Settle()
		m.past = nil
		return "", ""
	}
	return say(d.Undo()), say(m.undo())
}

// run a list of changes, four bytes each, and hold tree and model together; then undo all.
func run(t *testing.T, list []byte) {
	t.Helper()
	d, m := New(), &model{now: []modelNode{{kind: api.Document, parent: -1}}}
	for ; len(list) >= 4; list = list[4:] {
		got, want := step(d, m, list[0], list[1], list[2], list[3])
		if got != want {
			t.Fatalf("%v: got %s, want %s", list[:4], got, want)
		}
		if tell(d) != m.tell() {
			t.Fatalf("%v: got\n%s\nwant\n%s", list[:4], tell(d), m.tell())
		}
	}
	for m.undo() {
		if !d.Undo() {
			t.Fatal("nothing to undo")
		}
	}
	if d.Undo() || tell(d) != m.tell() {
		t.Fatalf("at the end: got\n%s\nwant\n%s", tell(d), m.tell())
	}
}

// TestModel runs many lists of changes that are told by a fixed rule.
func TestModel(t *testing.T) {
	state := uint32(1)
	next := func() byte {
		state = state*1664525 + 1013904223
		return byte(state >> 24)
	}
	for range 60 {
		list := make([]byte, 4*150)
		for i := range list {
			list[i] = next()
		}
		run(t, list)
	}
}

func FuzzTree(f *testing.F) {
	f.Add([]byte{0, 0, 0, 0, 4, 1, 2, 1, 9, 2, 0, 1, 13, 2, 0, 0, 15, 1, 0, 0})
	f.Fuzz(func(t *testing.T, list []byte) {
		run(t, list[:min(len(list), 400)])
	})
}
