package markup

import (
	"errors"
	"fmt"
	"strings"
	"testing"

	"casement/api"
	"casement/plain"
	"casement/tree"
)

// show what lies in a node: texts and comments quoted, elements with their attributes and, in brackets, their kids.
func show(t *tree.Tree, id int) string {
	var l []string
	for _, k := range t.Kids(id) {
		switch t.Kind(k) {
		case api.Text:
			l = append(l, fmt.Sprintf("%q", t.Words(k)))
		case api.Comment:
			l = append(l, fmt.Sprintf("!%q", t.Words(k)))
		default:
			s := t.Tag(k)
			for _, a := range t.Attrs(k) {
				s += fmt.Sprintf(" %s=%q", a.Name, a.Value)
			}
			l = append(l, s+"("+show(t, k)+")")
		}
	}
	return strings.Join(l, " ")
}

// read a text that is to be read without an error, and look at what holds of all trees that are read.
func read(t *testing.T, text string) *tree.Tree {
	t.Helper()
	d, err := Read(text)
	if err != nil || d == nil {
		t.Fatalf("Read(%.400q): %v, %v", text, d, err)
	}
	for i, id := range d.Under(0) {
		if i != id {
			t.Errorf("Read(%.400q): node %d has the ID %d", text, i, id)
		}
	}
	if len(d.Under(0)) != d.Size() {
		t.Errorf("Read(%.400q): %d nodes, of which %d stand in the document", text, d.Size(), len(d.Under(0)))
	}
	before := show(d, 0)
	if d.Undo() || show(d, 0) != before {
		t.Errorf("Read(%.400q) can be undone", text)
	}
	return d
}

// reads: each text, and what is to be read of it.
func reads(t *testing.T, list [][2]string) {
	t.Helper()
	for _, c := range list {
		if got := show(read(t, c[0]), 0); got != c[1] {
			t.Errorf("Read(%.400q):\n got %.400s\nwant %.400s", c[0], got, c[1])
		}
	}
}

// fails: a text is to be refused, with a place.
func fails(t *testing.T, text string, at int) {
	t.Helper()
	d, err := Read(text)
	var f *api.Fault
	if !errors.As(err, &f) || f.Err != api.ErrBound || f.At != at || d != nil {
		code, where := plain.Code(err)
		t.Errorf("Read of %d bytes: %v, error %d at %d, want the bound at %d", len(text), d, code, where, at)
	}
}

// build a tree of what show tells, by the calls of package tree alone. (A text that is empty, kids of a void element: all that a tree may have.)
func build(t *testing.T, text string) *tree.Tree {
	t.Helper()
	d := tree.New()
	if rest := buildKids(t, d, 0, text); rest != "" {
		t.Fatalf("%q: rest %q", text, rest)
	}
	d.Settle()
	return d
}

func buildKids(t *testing.T, d *tree.Tree, parent int, s string) string {
	t.Helper()
	for s = strings.TrimLeft(s, " "); s != "" && s[0] != ')'; s = strings.TrimLeft(s, " ") {
		var id int
		var err error
		switch s[0] {
		case '"':
			id, err = d.Text(quoted(t, &s))
		case '!':
			s = s[1:]
			id, err = d.Comment(quoted(t, &s))
		default:
			var head string
			head, s, _ = strings.Cut(s, "(")
			tag, attrs, _ := strings.Cut(head, " ")
			id, err = d.Element(tag)
			for attrs != "" {
				var name string
				name, attrs, _ = strings.Cut(attrs, "=")
				if e := d.Set(id, name, quoted(t, &attrs)); e != nil {
					t.Fatal(e)
				}
				attrs = strings.TrimLeft(attrs, " ")
			}
			s = strings.TrimPrefix(buildKids(t, d, id, s), ")")
		}
		if err != nil {
			t.Fatal(err)
		}
		if err := d.Put(parent, id, len(d.Kids(parent))); err != nil {
			t.Fatal(err)
		}
	}
	return s
}

// quoted: a text between strokes that stands first.
func quoted(t *testing.T, s *string) string {
	t.Helper()
	var out string
	if _, err := fmt.Sscanf(*s, "%q", &out); err != nil {
		t.Fatal(*s, err)
	}
	end := 1
	for (*s)[end] != '"' {
		if (*s)[end] == '\\' {
			end++
		}
		end++
	}
	*s = (*s)[end+1:]
	return out
}
