package choose

import (
	"slices"
	"strings"
	"testing"
)

// What a list asks for is told of all its parts, also of those in lists within.
func TestAsked(t *testing.T) {
	for _, c := range []struct{ text, attributes, names string }{
		{"a, *, #hover.focus > b", "", ""},
		{"[A], [b=has] + [c~='empty']", "a b c", ""},
		{"a:Hover b:focus, :empty", "", "hover focus empty"},
		{":NTH-child(2n):nth-last-child(1):nth-of-type(odd)", "", "nth-child nth-last-child nth-of-type"},
		{":not(:is(a, b:has(> c)), [x])", "", ""},
		{":not(:is(a, b:has(c > [y])), [x]) d:root", "y x", "not is has root"},
		{"[a][a]:root:root", "a a", "root root"},
	} {
		l, err := Read(c.text)
		if err != nil {
			l = nil
		}
		attributes, names := l.Asked()
		if got := strings.Join(attributes, " "); got != c.attributes {
			t.Errorf("%s: attributes %s, want %s", c.text, got, c.attributes)
		}
		if got := strings.Join(names, " "); got != c.names {
			t.Errorf("%s: names %s, want %s", c.text, got, c.names)
		}
	}
}

// P4: what is told is new.
func TestAskedNew(t *testing.T) {
	l, err := Read("[a]:root")
	if err != nil {
		t.Fatal(err)
	}
	attributes, names := l.Asked()
	attributes[0], names[0] = "x", "y"
	attributes, names = l.Asked()
	if !slices.Equal(attributes, []string{"a"}) || !slices.Equal(names, []string{"root"}) {
		t.Error(attributes, names)
	}
}
