package tree

import (
	"errors"
	"fmt"
	"slices"
	"strings"
	"testing"

	"casement/api"
)

// want fails the test if an error is not the one that is told, or tells another one besides.
func want(t *testing.T, what string, got, err error) {
	t.Helper()
	if !errors.Is(got, err) || (got == nil) != (err == nil) {
		t.Errorf("%s: got error %v, want %v", what, got, err)
	}
}

// same fails the test if two things do not print alike.
func same(t *testing.T, what string, got, want any) {
	t.Helper()
	if fmt.Sprint(got) != fmt.Sprint(want) {
		t.Errorf("%s: got %v, want %v", what, got, want)
	}
}

// sample: the document has 1, that has 2 (a text), 3 and 6 (a comment); 3 has 4 and 5; 7 is a root with 8 in it.
func sample(t *testing.T) *Tree {
	t.Helper()
	d := New()
	for _, kind := range []int{2, 3, 2, 2, 3, 4, 2, 2} {
		var err error
		switch kind {
		case api.Element:
			_, err = d.Element("e")
		case api.Text:
			_, err = d.Text("t")
		default:
			_, err = d.Comment("c")
		}
		want(t, "new node", err, nil)
	}
	for _, p := range [][3]int{{0, 1, 0}, {1, 2, 0}, {1, 3, 1}, {3, 4, 0}, {3, 5, 1}, {1, 6, 2}, {7, 8, 0}} {
		want(t, fmt.Sprint("Put", p), d.Put(p[0], p[1], p[2]), nil)
	}
	return d
}

func TestNew(t *testing.T) {
	d := New()
	same(t, "document", []any{d.Kind(0), d.Parent(0), d.Kids(0), d.Under(0), d.Size(), d.Tag(0), d.Words(0)}, []any{api.Document, -1, []int{}, []int{0}, 1, "", ""})
	if d.Undo() {
		t.Error("a new tree has something to undo")
	}
	other := New()
	other.Element("a")
	same(t, "size of one tree when another one grows", d.Size(), 1)
}

func TestNewNodes(t *testing.T) {
	d := New()
	a, errA := d.Element("a")
	b, errB := d.Text("x<y")
	c, errC := d.Comment("")
	for _, err := range []error{errA, errB, errC} {
		want(t, "new node", err, nil)
	}
	same(t, "IDs", []int{a, b, c, d.Size()}, []int{1, 2, 3, 4})
	same(t, "kinds", []int{d.Kind(a), d.Kind(b), d.Kind(c)}, []int{api.Element, api.Text, api.Comment})
	same(t, "parents", []int{d.Parent(a), d.Parent(b), d.Parent(c)}, []int{-1, -1, -1})
	same(t, "tag and words", []string{d.Tag(a), d.Words(a), d.Tag(b), d.Words(b), d.Tag(c), d.Words(c)}, []string{"a", "", "", "x<y", "", ""})
	same(t, "attributes", len(d.Attrs(a)), 0)
	same(t, "kids of the document", len(d.Kids(0)), 0)
}

func TestNames(t *testing.T) {
	long := strings.Repeat("a", api.MaxName)
	for _, s := range []string{"a", "z", "h1", "a-", "a_b:c-9", "a0", long} {
		d := New()
		id, err := d.Element(s)
		want(t, s, err, nil)
		want(t, s, d.Set(id, s, "v"), nil)
		same(t, "tag", d.Tag(id), s)
		if !Name(s) {
			t.Errorf("%q is a name", s)
		}
	}
	for _, s := range []string{"", "A", "aB", "1a", "-a", "_a", ":a", "a b", " a", "a\n", "a.", "a/", "a@", "a[", "a`", "a{", "é", "aé", "\xff", "a\x00", long + "a"} {
		d := New()
		id, err := d.Element(s)
		want(t, s, err, api.ErrName)
		same(t, "ID with an error, size, something to undo", []any{id, d.Size(), d.Undo()}, []any{0, 1, false})
		d.Element("a")
		want(t, s, d.Set(1, s, "v"), api.ErrName)
		if Name(s) {
			t.Errorf("%q is no name", s)
		}
	}
}

func TestNameOfEachByte(t *testing.T) {
	const first, rest = "abcdefghijklmnopqrstuvwxyz", "0123456789-_:"
	for b := range 256 {
		s := string([]byte{byte(b)})
		same(t, fmt.Sprintf("name %q", s), Name(s), strings.Contains(first, s))
		same(t, fmt.Sprintf("name %q", "a"+s), Name("a"+s), strings.Contains(first+rest, s))
	}
}

func TestBoundsOfNewNodes(t *testing.T) {
	d := New()
	most := strings.Repeat("x", api.MaxText)
	id, err := d.Text(most)
	want(t, "longest text", err, nil)
	same(t, "longest text", d.Words(id) == most, true)
	_, err = d.Comment(most)
	want(t, "longest comment", err, nil)
	id, err = d.Text(most + "x")
	want(t, "text too long", err, api.ErrBound)
	same(t, "ID with an error", id, 0)
	_, err = d.Comment(most + "x")
	want(t, "comment too long", err, api.ErrBound)
	same(t, "size", d.Size(), 3)
}

func TestTooManyNodes(t *testing.T) {
	d := New()
	for i := 1; i < api.MaxNodes; i++ {
		id, err := d.Element("a")
		want(t, "Element", err, nil)
		same(t, "ID", id, i)
	}
	// What is taken out still counts.
	want(t, "Put", d.Put(0, 5, 0), nil)
	want(t, "Take", d.Take(5), nil)
	for what, make := range map[string]func(string) (int, error){"Element": d.Element, "Text": d.Text, "Comment": d.Comment} {
		id, err := make("a")
		want(t, what, err, api.ErrBound)
		same(t, what, id, 0)
	}
	_, err := d.Element("A")
	want(t, "a name is asked for first", err, api.ErrName)
	same(t, "size", d.Size(), api.MaxNodes)
	// Undo: Take, Put, then the last node, whose number is free again.
	same(t, "Undo", []bool{d.Undo(), d.Undo(), d.Undo()}, []bool{true, true, true})
	id, err := d.Text("again")
	want(t, "Text", err, nil)
	same(t, "ID", id, api.MaxNodes-1)
}

func TestPut(t *testing.T) {
	for _, c := range []struct {
		parent, id, at int
		under          string
	}{
		{0, 7, 0, "[0 7 8 1 2 3 4 5 6]"},
		{0, 7, 1, "[0 1 2 3 4 5 6 7 8]"},
		{1, 7, 1, "[0 1 2 7 8 3 4 5 6]"},
		{1, 2, 0, "[0 1 2 3 4 5 6]"},
		{1, 2, 1, "[0 1 3 4 5 2 6]"},
		{1, 2, 2, "[0 1 3 4 5 6 2]"},
		{1, 6, 0, "[0 1 6 2 3 4 5]"},
		{0, 3, 0, "[0 3 4 5 1 2 6]"},
		{4, 5, 0, "[0 1 2 3 4 5 6]"},
		{8, 3, 0, "[0 1 2 6]"},
		{7, 1, 1, "[0]"},
	} {
		d := sample(t)
		want(t, fmt.Sprint(c), d.Put(c.parent, c.id, c.at), nil)
		same(t, fmt.Sprint(c), d.Under(0), c.under)
		same(t, "parent", d.Parent(c.id), c.parent)
		same(t, "place", slices.Index(d.Kids(c.parent), c.id), c.at)
	}
}

func TestPutErrors(t *testing.T) {
	huge := int(^uint(0) >> 1)
	for _, c := range []struct {
		parent, id, at int
		err            error
	}{
		{0, 9, 0, api.ErrNode}, {9, 1, 0, api.ErrNode}, {0, -1, 0, api.ErrNode}, {-1, 1, 0, api.ErrNode}, {huge, -huge, 0, api.ErrNode},
		{9, 0, 0, api.ErrNode}, {0, 9, -1, api.ErrNode},
		{1, 0, 0, api.ErrPlace}, {0, 0, 0, api.ErrPlace}, {7, 0, 0, api.ErrPlace},
		{2, 7, 0, api.ErrPlace}, {6, 7, 0, api.ErrPlace},
		{1, 1, 0, api.ErrPlace}, {3, 1, 0, api.ErrPlace}, {4, 1, 0, api.ErrPlace}, {8, 7, 0, api.ErrPlace},
		{0, 7, -1, api.ErrPlace}, {0, 7, 2, api.ErrPlace}, {0, 1, 1, api.ErrPlace}, {1, 2, 3, api.ErrPlace}, {1, 2, huge, api.ErrPlace}, {1, 7, 4, api.ErrPlace}, {4, 5, 1, api.ErrPlace},
	} {
		d := sample(t)
		before := tell(d)
		d.Settle()
		want(t, fmt.Sprint(c), d.Put(c.parent, c.id, c.at), c.err)
		same(t, fmt.Sprint(c), tell(d), before)
		same(t, "something to undo", d.Undo(), false)
	}
}

func TestTake(t *testing.T) {
	d := sample(t)
	want(t, "Take", d.Take(3), nil)
	same(t, "what is left", d.Under(0), []int{0, 1, 2, 6})
	same(t, "what was taken", []any{d.Under(3), d.Parent(3), d.Parent(4)}, []any{[]int{3, 4, 5}, -1, 3})
	same(t, "size", d.Size(), 9)
	for id, err := range map[int]error{3: api.ErrPlace, 0: api.ErrPlace, 7: api.ErrPlace, 9: api.ErrNode, -1: api.ErrNode} {
		want(t, fmt.Sprint("Take ", id), d.Take(id), err)
	}
	same(t, "after errors", d.Under(0), []int{0, 1, 2, 6})
}

func TestSet(t *testing.T) {
	d := sample(t)
	for _, a := range [][2]string{{"b", "1"}, {"a", "2"}, {"c", ""}, {"a", "3"}, {"b", "1"}} {
		want(t, "Set", d.Set(1, a[0], a[1]), nil)
	}
	same(t, "attributes", d.Attrs(1), "[{b 1} {a 3} {c }]")
	for name, value := range map[string]string{"a": "3", "b": "1", "c": ""} {
		v, has := d.Attr(1, name)
		same(t, name, []any{v, has}, []any{value, true})
	}
	most := strings.Repeat("v", api.MaxText)
	want(t, "longest value", d.Set(3, "a", most), nil)
	for _, c := range []struct {
		id          int
		name, value string
		err         error
	}{
		{9, "a", "", api.ErrNode}, {-1, "A", most + "v", api.ErrNode},
		{0, "a", "", api.ErrPlace}, {2, "A", "", api.ErrPlace}, {6, "a", most + "v", api.ErrPlace},
		{1, "", "", api.ErrName}, {1, "A", most + "v", api.ErrName},
		{1, "a", most + "v", api.ErrBound}, {1, "new", most + "v", api.ErrBound},
	} {
		want(t, fmt.Sprint("Set ", c.id, c.name), d.Set(c.id, c.name, c.value), c.err)
	}
	same(t, "attributes after errors", d.Attrs(1), "[{b 1} {a 3} {c }]")
}

func TestUnset(t *testing.T) {
	d := sample(t)
	for _, name := range []string{"a", "b", "c"} {
		want(t, "Set", d.Set(1, name, "1"), nil)
	}
	want(t, "Unset", d.Unset(1, "b"), nil)
	same(t, "attributes", d.Attrs(1), "[{a 1} {c 1}]")
	v, has := d.Attr(1, "b")
	same(t, "b", []any{v, has}, []any{"", false})
	for _, c := range []struct {
		id   int
		name string
		err  error
	}{{9, "a", api.ErrNode}, {-1, "a", api.ErrNode}, {0, "a", api.ErrPlace}, {2, "a", api.ErrPlace}, {6, "", api.ErrPlace}, {1, "b", api.ErrName}, {1, "", api.ErrName}, {1, "A", api.ErrName}, {3, "a", api.ErrName}} {
		want(t, fmt.Sprint("Unset ", c), d.Unset(c.id, c.name), c.err)
	}
	want(t, "Set", d.Set(1, "b", "2"), nil)
	same(t, "one that comes back is the last", d.Attrs(1), "[{a 1} {c 1} {b 2}]")
}

func TestSay(t *testing.T) {
	d := sample(t)
	most := strings.Repeat("s", api.MaxText)
	want(t, "Say", d.Say(2, "words"), nil)
	want(t, "Say", d.Say(6, most), nil)
	same(t, "words", []any{d.Words(2), d.Words(6) == most}, []any{"words", true})
	for _, c := range []struct {
		id   int
		text string
		err  error
	}{{9, "", api.ErrNode}, {-1, most + "s", api.ErrNode}, {0, "", api.ErrPlace}, {1, most + "s", api.ErrPlace}, {2, most + "s", api.ErrBound}} {
		want(t, fmt.Sprint("Say ", c.id), d.Say(c.id, c.text), c.err)
	}
	same(t, "after errors", []any{d.Words(2), d.Words(0), d.Words(1)}, []any{"words", "", ""})
}

func TestLooksAtNoNode(t *testing.T) {
	d := sample(t)
	for _, id := range []int{-1, 9, int(^uint(0) >> 1), -int(^uint(0)>>1) - 1} {
		v, has := d.Attr(id, "a")
		same(t, fmt.Sprint(id), []any{d.Kind(id), d.Tag(id), v, has, len(d.Attrs(id)), d.Words(id), d.Parent(id), len(d.Kids(id)), len(d.Under(id))},
			[]any{0, "", "", false, 0, "", -1, 0, 0})
	}
}

func TestLooksAtOtherKinds(t *testing.T) {
	d := sample(t)
	for _, id := range []int{0, 2, 6} {
		v, has := d.Attr(id, "a")
		same(t, fmt.Sprint(id), []any{d.Tag(id), v, has, len(d.Attrs(id))}, []any{"", "", false, 0})
	}
	same(t, "a text", []any{d.Kids(2), d.Under(2)}, []any{[]int{}, []int{2}})
	same(t, "a part", []any{d.Kids(1), d.Under(3), d.Under(7)}, []any{[]int{2, 3, 6}, []int{3, 4, 5}, []int{7, 8}})
}

func TestAnswersAreNew(t *testing.T) {
	d := sample(t)
	d.Set(1, "a", "1")
	before := tell(d)
	d.Kids(1)[0] = 99
	_ = append(d.Kids(1)[:1], 98)
	d.Under(1)[1] = 97
	d.Attrs(1)[0] = api.Attr{Name: "z", Value: "z"}
	same(t, "after the answers were written into", tell(d), before)
	kids, attrs, under := d.Kids(1), d.Attrs(1), d.Under(1)
	d.Set(1, "a", "2")
	d.Put(1, 7, 0)
	same(t, "answers after a change", []any{kids, attrs, under}, []any{[]int{2, 3, 6}, []api.Attr{{Name: "a", Value: "1"}}, []int{1, 2, 3, 4, 5, 6}})
}

func TestOrder(t *testing.T) {
	d := sample(t)
	d.Put(1, 6, 0)
	for _, root := range []int{0, 7} {
		list := d.Under(root)
		for i, a := range list {
			for j, b := range list {
				want := 0
				if i < j {
					want = -1
				} else if i > j {
					want = 1
				}
				got, ok := d.Order(a, b)
				same(t, fmt.Sprint("Order ", a, b), []any{got, ok}, []any{want, true})
			}
		}
	}
	for _, c := range [][2]int{{0, 7}, {8, 1}, {7, 0}, {9, 9}, {-1, -1}, {0, 9}, {-1, 0}} {
		got, ok := d.Order(c[0], c[1])
		same(t, fmt.Sprint("Order ", c), []any{got, ok}, []any{0, false})
	}
}

func TestCopy(t *testing.T) {
	d := sample(t)
	d.Put(1, 6, 0)
	d.Set(1, "a", "1")
	d.Set(3, "b", "2")
	d.Settle()
	id, err := d.Copy(1)
	want(t, "Copy", err, nil)
	same(t, "copy", []any{id, d.Under(id), d.Parent(id), d.Kids(id), d.Size()}, []any{9, []int{9, 10, 11, 12, 13, 14}, -1, []int{10, 11, 12}, 15})
	same(t, "what is like what", kindsAndWords(d, 9), kindsAndWords(d, 1))
	d.Set(1, "a", "changed")
	d.Say(2, "changed")
	d.Put(1, 2, 2)
	same(t, "the copy when the first changes", []any{d.Attrs(9), d.Attrs(12), d.Words(11), d.Kids(9)}, []any{"[{a 1}]", "[{b 2}]", "t", []int{10, 11, 12}})
	text, err := d.Copy(2)
	want(t, "Copy of a text", err, nil)
	same(t, "copy of a text", []any{text, d.Words(text), d.Kind(text)}, []any{15, "changed", api.Text})
	for id, err := range map[int]error{0: api.ErrPlace, -1: api.ErrNode, 16: api.ErrNode} {
		got, is := d.Copy(id)
		want(t, fmt.Sprint("Copy ", id), is, err)
		same(t, "ID with an error", got, 0)
	}
}

// kindsAndWords of all that lies in a node.
func kindsAndWords(d *Tree, id int) string {
	var s strings.Builder
	for _, n := range d.Under(id) {
		fmt.Fprintln(&s, d.Kind(n), d.Tag(n), d.Words(n), d.Attrs(n), len(d.Kids(n)))
	}
	return s.String()
}

func TestCopyBound(t *testing.T) {
	d := sample(t)
	for d.Size() < api.MaxNodes-5 {
		d.Element("a")
	}
	d.Settle()
	id, err := d.Copy(1)
	want(t, "one too many", err, api.ErrBound)
	same(t, "nothing is made", []any{id, d.Size(), d.Undo()}, []any{0, api.MaxNodes - 5, false})
	_, err = d.Copy(0)
	want(t, "the document", err, api.ErrPlace)
	d.Take(6)
	_, err = d.Copy(1)
	want(t, "just enough", err, nil)
	same(t, "size", d.Size(), api.MaxNodes)
}

func TestUndoOfEachChange(t *testing.T) {
	for what, change := range map[string]func(d *Tree) error{
		"Element":         func(d *Tree) error { _, err := d.Element("a"); return err },
		"Text":            func(d *Tree) error { _, err := d.Text("a"); return err },
		"Comment":         func(d *Tree) error { _, err := d.Comment("a"); return err },
		"Put of a root":   func(d *Tree) error { return d.Put(3, 7, 1) },
		"Put of a kid":    func(d *Tree) error { return d.Put(0, 3, 0) },
		"Put forth":       func(d *Tree) error { return d.Put(1, 2, 2) },
		"Put back":        func(d *Tree) error { return d.Put(1, 6, 0) },
		"Put where it is": func(d *Tree) error { return d.Put(1, 3, 1) },
		"Take":            func(d *Tree) error { return d.Take(3) },
		"Set":             func(d *Tree) error { return d.Set(1, "b", "") },
		"Set again":       func(d *Tree) error { return d.Set(1, "k", "2") },
		"Set alike":       func(d *Tree) error { return d.Set(1, "k", "1") },
		"Unset":           func(d *Tree) error { return d.Unset(1, "k") },
		"Say":             func(d *Tree) error { return d.Say(2, "") },
		"Say alike":       func(d *Tree) error { return d.Say(2, "t") },
		"Copy":            func(d *Tree) error { _, err := d.Copy(1); return err },
	} {
		d := sample(t)
		d.Set(1, "k", "1")
		d.Set(1, "l", "1")
		before := tell(d)
		d.Settle()
		want(t, what, change(d), nil)
		same(t, what+": Undo, and once more", []bool{d.Undo(), d.Undo()}, []bool{true, false})
		same(t, what, tell(d), before)
	}
}

func TestUndoIsNotDoneAgain(t *testing.T) {
	d := sample(t)
	d.Settle()
	d.Say(2, "one")
	d.Say(2, "two")
	d.Say(0, "an error is no change")
	same(t, "Undo", d.Undo(), true)
	same(t, "words", d.Words(2), "one")
	d.Say(2, "three")
	same(t, "Undo", d.Undo(), true)
	same(t, "words", d.Words(2), "one")
	same(t, "Undo", d.Undo(), true)
	same(t, "words", d.Words(2), "t")
	same(t, "Undo", d.Undo(), false)
}

func TestSettle(t *testing.T) {
	d := New()
	d.Settle()
	d.Element("a")
	d.Settle()
	same(t, "Undo", d.Undo(), false)
	d.Element("b")
	same(t, "Undo", []bool{d.Undo(), d.Undo()}, []bool{true, false})
	same(t, "size", d.Size(), 2)
}
