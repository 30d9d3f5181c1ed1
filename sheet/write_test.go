package sheet

import (
	"errors"
	"strings"
	"testing"

	"casement/api"
)

// again: a sheet's text, which must be read as that sheet.
func again(t *testing.T, s *Sheet) string {
	t.Helper()
	text, err := Write(s)
	if err != nil {
		t.Errorf("%s: %v", told(s), err)
		return ""
	}
	back, err := Read(text)
	if err != nil || told(back) != told(s) {
		t.Errorf("%s is written as %q", told(s), text)
	}
	if len(text) > api.MaxText/2 {
		t.Errorf("a text of %d bytes", len(text))
	}
	return text
}

func TestWriteWhatIsRead(t *testing.T) {
	for _, text := range []string{
		"",
		"a{}",
		"{}",
		"{a:b}{}",
		"a b{c:d;e:f!important}",
		"} a{b:c}",
		";a;{b:c}",
		"@media x{a{}}",
		"@media{a{}}",
		"@media(x){a{}b{}}@media y{c{}}d{}@media y{e{f:g}}",
		"@media -{a{}}@media 1{b{}}@media .{c{}}@media é{d{}}@media @x{e{}}@media f(){g{}}@media --{h{}}@media #a{h{}}",
		"@media }x{a{}}",
		"a{b:(c }",
		"a{b:(c",
		"a{b:{;}!important;--C:[;] ;d:'\\\"}",
		"a{b:!!important}",
		"a{b:c !important !important}",
		"a/**/b{c:1/**/px//**/*}",
		`a 'b' d{e:f'g\\\"'h/**/'\''}`,
		`@media '"\'\\'{a{b:('\'' }}`,
		"a{b:\"\\'\\\"\"}",
		"\x80\xff{\xc3:\xc3'\x80'}",
		"@media x{;a]{b:c}}",
		"a{b:-->}<!--{}",
	} {
		s, err := Read(text)
		if err != nil {
			t.Fatal(err)
		}
		again(t, s)
	}
}

func TestWriteIsShort(t *testing.T) {
	for text, want := range map[string]string{
		"":                                  "",
		" a , b { c : d ; e : f } ":         "a , b{c:d;e:f}",
		"@media x {a{}} @media x {b{}} c{}": "@media x{a{}b{}}c{}",
		"@media (x) {a{b:c!important}}":     "@media(x){a{b:c!important}}",
		`a{b:"\"\"'"}`:                      `a{b:'""\''}`,
	} {
		s, _ := Read(text)
		if got := again(t, s); got != want {
			t.Errorf("%q is written as %q, want %q", text, got, want)
		}
	}
}

func refuse(t *testing.T, s *Sheet) {
	t.Helper()
	if text, err := Write(s); text != "" || !errors.Is(err, api.ErrShape) {
		t.Errorf("%+v: %.40q %v", s, text, err)
	}
}

// one: a sheet of one rule with one declaration.
func one(media, head, name, value string, strong bool) *Sheet {
	return &Sheet{Rules: []Rule{{Media: media, Head: head, Decls: []Decl{{Name: name, Value: value, Strong: strong}}}}}
}

func TestNoText(t *testing.T) {
	refuse(t, nil)
	for _, head := range []string{" a", "a ", "a  b", "a{", "a{}", "a {b:c} d", "@x", "@media x", "a/*b*/c", "a/**/ b", "a/**/.b", "'a'", `"a`, `"\a"`, "1PX", "a(", "a[", "f(a", "{", "\n", "a\nb", "\"\n", "\"a\n", "\"a\nb\"", "\"a\\\nb\"", "/*", "a/**/", "/**/a", "'\n'", "a/*", "//**/*/*", "\t", "\r"} {
		refuse(t, one("", head, "b", "c", false))
	}
	for _, head := range []string{"}", "} a", "a}b", "a{b}c"} {
		refuse(t, one("x", head, "b", "c", false))
	}
	for _, media := range []string{" x", "x;", "x;y", "x{", "x{}", "x(", "1PX", "'x'", "\n", "x/**/", "\"\n"} {
		refuse(t, one(media, "a", "b", "c", false))
	}
	for _, name := range []string{"", "B", "aB", " b", "b ", "b:", "b:c", "b;c", "1", "f(", "#a", "@a", "'a'", "}", "/**/b", "b/**/", "a b", "-", "b\n", "x:y;b"} {
		refuse(t, one("", "a", name, "c", false))
		refuse(t, one("x", "a", name, "c", true))
	}
	for _, value := range []string{"", " ", " c", "c ", "c;", ";", "c;d:e", "c}", "c)", "c]", "}", "(", "(c", "f(", "[", "{", "(]", "'c'", `"c`, "\"\n", "c\nd", "1PX", "c  d", "/**/", "c/**/", "c/**/ d", "c/**/[d]", "a/*x*/b", "c}b{", "c}}@media y{a{b:c"} {
		refuse(t, one("", "a", "b", value, false))
		refuse(t, one("", "a", "b", value, true))
	}
	for _, value := range []string{"c!important", "c !important", "c ! IMPORTANT", "!important", "! important", "c! important"} {
		refuse(t, one("", "a", "b", value, false))
	}
	again(t, one("", "a", "b", "c!important", true))
	again(t, one("", "a", "b", "!important", true))
	again(t, one("", "a", "b", "!important c", false))
	again(t, one("", "a", "b", "(!important)", false))
	again(t, one("", "}", "--B", "c", false))
	again(t, one("x y", ";]", "b", "c", false))
}

// TestHalf: whether there is a text of at most half of MaxText bytes is told to the byte.
func TestHalf(t *testing.T) {
	for _, c := range []struct {
		text string             // of a shortest text all but what makes it long
		make func(n int) *Sheet // a sheet that is so much longer
	}{
		{"{", func(n int) *Sheet { return &Sheet{Rules: []Rule{{Head: strings.Repeat("x", n)}}} }},
		{"a{b:", func(n int) *Sheet { return one("", "a", "b", strings.Repeat("x", n), false) }},
		{"a{b:!important", func(n int) *Sheet { return one("", "a", "b", strings.Repeat("x", n), true) }},
		{"a{b:()!important", func(n int) *Sheet { return one("", "a", "b", "("+strings.Repeat("x", n)+")", true) }},
		{"a{b:", func(n int) *Sheet { return one("", "a", "b", strings.Repeat("(", n)+strings.Repeat(")", n), false) }},
		{"a{b:f([{", func(n int) *Sheet { return one("", "a", "b", "f([{"+strings.Repeat("x", n)+"}])", false) }},
		{"a{b:([ ]", func(n int) *Sheet { return one("", "a", "b", "(["+strings.Repeat("x", n)+" ])", false) }},
		{"a{b:( )", func(n int) *Sheet { return one("", "a", "b", "("+strings.Repeat("x", n)+" )", false) }},
		{`a{b:"`, func(n int) *Sheet { return one("", "a", "b", `"`+strings.Repeat("x", n)+`"`, false) }},
		{`a{b:" `, func(n int) *Sheet { return one("", "a", "b", `"`+strings.Repeat("x", n)+` "`, false) }},
		{`a{b:"\\`, func(n int) *Sheet { return one("", "a", "b", `"`+strings.Repeat("x", n)+`\\"`, false) }},
		{`a{b:(["`, func(n int) *Sheet { return one("", "a", "b", `(["`+strings.Repeat("x", n)+`"])`, false) }},
		{`a{b:'`, func(n int) *Sheet { return one("", "a", "b", `"`+strings.Repeat(`\"`, n)+`"`, false) }},
		{`a{b:'';c:d`, func(n int) *Sheet {
			return &Sheet{Rules: []Rule{{Head: "a", Decls: []Decl{{Name: "b", Value: `"` + strings.Repeat(`\"`, n) + `"`}, {Name: "c", Value: "d"}}}}}
		}},
		{"@media x{a{b:", func(n int) *Sheet { return one("x", "a", "b", strings.Repeat("x", n), false) }},
		{"@media''{a{b:c", func(n int) *Sheet { return one(`"`+strings.Repeat(`\"`, n)+`"`, "a", "b", "c", false) }},
		{"''{b:c", func(n int) *Sheet { return one("", `"`+strings.Repeat(`\"`, n)+`"`, "b", "c", false) }},
		{"@media(){a{b:c", func(n int) *Sheet { return one("("+strings.Repeat("x", n)+")", "a", "b", "c", false) }},
		{"@media x{a{b:c;d:e}f{g:h}}i{}@media x{j{}}{", func(n int) *Sheet {
			s, _ := Read("@media x{a{b:c;d:e}}@media x{f{g:h}}i{}@media x{j{}}")
			s.Rules = append(s.Rules, Rule{Head: strings.Repeat("x", n)})
			return s
		}},
	} {
		n := api.MaxText/2 - len(c.text)
		if text := again(t, c.make(n)); len(text) != api.MaxText/2 {
			t.Errorf("%q: %d bytes", c.text, len(text))
		}
		again(t, c.make(n-1))
		refuse(t, c.make(n+1))
	}
}

// TestTooMany: rules, declarations and bytes that no text has.
func TestTooMany(t *testing.T) {
	s := &Sheet{Rules: make([]Rule, api.MaxRules)}
	again(t, s)
	s.Rules = append(s.Rules, Rule{})
	refuse(t, s)
	d := Decl{Name: "a", Value: "b"}
	s = &Sheet{Rules: []Rule{{}}}
	for range api.MaxDecls {
		s.Rules[0].Decls = append(s.Rules[0].Decls, d)
	}
	again(t, s)
	s.Rules = append(s.Rules, Rule{Decls: []Decl{d}})
	refuse(t, s)
	refuse(t, &Sheet{Rules: make([]Rule, 100000)})
	refuse(t, one("", strings.Repeat("x", api.MaxText), "b", "c", false))
	refuse(t, one("", "a", "b", strings.Repeat("(", 100000)+strings.Repeat(")", 100000), false))
}

// TestWriteLeavesTheSheet: what is written is only read.
func TestWriteLeavesTheSheet(t *testing.T) {
	s := &Sheet{Rules: []Rule{{Media: "x", Head: "a", Decls: []Decl{}}, {Media: "x", Head: "b", Decls: []Decl{{Name: "c", Value: `"'"`, Strong: true}}}}}
	ahead := told(s)
	again(t, s)
	if told(s) != ahead {
		t.Error(told(s))
	}
}
