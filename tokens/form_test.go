package tokens

import (
	"strings"
	"testing"

	"casement/api"
)

func TestForm(t *testing.T) {
	for text, want := range map[string]string{
		"":                             "",
		" \n ":                         "",
		"/**/":                         "",
		"  a  ":                        "a",
		" /**/ a /**/ b /**/ ":         "a b",
		"a \t\r\f\n b":                 "a b",
		"a/**/ b":                      "a b",
		"a/*x*//*y*/b":                 "a/**/b",
		"'a'":                          `"a"`,
		`'a"b'`:                        `"a\"b"`,
		`"a\'b"`:                       `"a'b"`,
		`'\\'`:                         `"\\"`,
		`"\a`:                          `"a"`,
		`"`:                            `""`,
		"1PX 2Em 3% +.50É":             "1px 2em 3% +.50É",
		"A Url(X) #AbC @Foo":           "A Url(X) #AbC @Foo",
		"a/**/b":                       "a/**/b",
		"a/**/(":                       "a/**/(",
		"a(/**/b":                      "a(b",
		"a/**/1":                       "a/**/1",
		"a/**/+1":                      "a+1",
		"a/**/.5":                      "a.5",
		"a/**/-":                       "a/**/-",
		"-/**/-":                       "-/**/-",
		"-/**/a":                       "-/**/a",
		"-/**/(":                       "-(",
		"-/**/.":                       "-.",
		"1/**/./**/5":                  "1./**/5",
		"1/**/-/**/a":                  "1-/**/a",
		"1/**/-5":                      "1-5",
		"1/**/5":                       "1/**/5",
		"1/**/.5":                      "1/**/.5",
		"1.5/**/.5":                    "1.5.5",
		"1/**/%":                       "1/**/%",
		"1%/**/%":                      "1%%",
		"1%/**/a":                      "1%a",
		"1/**/px":                      "1/**/px",
		"1/**/f(":                      "1/**/f(",
		"1px/**/(":                     "1px(",
		"1px/**/2":                     "1px/**/2",
		"#/**/a":                       "#/**/a",
		"#/**/1":                       "#/**/1",
		"#a/**/b":                      "#a/**/b",
		"#a/**/(":                      "#a(",
		"@/**/a":                       "@/**/a",
		"@/**/a(":                      "@/**/a(",
		"@a/**/(":                      "@a(",
		"@a/**/-":                      "@a/**/-",
		"@/**/-":                       "@-",
		"//**/*":                       "//**/*",
		"*/**//":                       "*/",
		"/ *":                          "/ *",
		"<!/**/--":                     "<!--",
		"'a'/**/'b'":                   `"a""b"`,
		"a/**/'b'/**/c":                `a"b"c`,
		"a,/**/b;c:/**/d!/**/e":        "a,b;c:d!e",
		"\"a\nb":                       "\"a/**/ b",
		"\x80/**/\xff'\x80\\\xff'\xc3": "\x80/**/\xff\"\x80\xff\"\xc3",
	} {
		if got := Form(Cut(text)); got != want {
			t.Errorf("%q: %q, want %q", text, got, want)
		}
	}
}

// glued tells by kinds and bytes which tokens must be kept apart, where the program cuts their texts once more.
func glued(a, b Token) bool {
	text := b.Text()
	first := text[0]
	name := b.Kind == Name || b.Kind == Function
	number := b.Kind == Number || b.Kind == Part
	goesOn := strings.IndexByte("0123456789-_abcdefghijklmnopqrstuvwxyzABCDEFGHIJKLMNOPQRSTUVWXYZ", first) >= 0 || first >= 128
	bare := number && first != '+' && first != '-'
	switch {
	case a.Kind == Name:
		return goesOn || text == "("
	case a.Kind == Hash, a.Kind == At, a.Kind == Number && a.Unit != "":
		return goesOn
	case a.Kind == Number && first == '.':
		return bare && !strings.Contains(a.Word, ".")
	case a.Kind == Number:
		return name || text == "%" || bare
	case a.Is("#"):
		return goesOn
	case a.Is("@"):
		return name
	case a.Is("/"):
		return text == "*"
	case a.Is("."):
		return bare && first != '.'
	case a.Is("+"):
		return bare
	case a.Is("-"):
		return goesOn || bare
	}
	return false
}

// TestPairs: each pair of tokens of many is kept apart just where it must be; and what is told is cut into these two again.
func TestPairs(t *testing.T) {
	all := Cut("a -b --\x80 _( -c( 1/**/+1/**/-1 .5 1.5 -.5 +.5 1px 2-a 3-- 1%.5% -5% #a #1 #- @a @-b @-- 'x' '' '\\'\"' # @ / * . + - ( ) [ ] { } ; : ! , % \\ < > = ~ | $ ^ & ` ? \x00 \x7f")
	for _, a := range all {
		for _, b := range all {
			if a.Kind == Blanks && b.Kind == Blanks {
				continue
			}
			list := []Token{{Kind: Sign, Word: ";"}, a, b, {Kind: Sign, Word: ";"}}
			holdPair(t, list, glued(a, b))
		}
	}
}

func holdPair(t *testing.T, list []Token, kept bool) {
	t.Helper()
	text := Form(list)
	between := list[1].Text() + list[2].Text()
	if kept {
		between = list[1].Text() + "/**/" + list[2].Text()
	}
	if !strings.Contains(text, between) {
		t.Errorf("%q: is not told as %q", text, between)
	}
	if !same(Cut(text), list) {
		t.Errorf("%q is cut into %s", text, told(Cut(text)))
	}
	if back := Cut(Source(list)); !same(back, list) {
		t.Errorf("%q is cut into %s", Source(list), told(back))
	}
}

func same(a, b []Token) bool { return told(a) == told(b) }

func TestSource(t *testing.T) {
	for text, want := range map[string]string{
		"":              "",
		" a ":           "a",
		"'a'":           `"a"`,
		`"a\"b"`:        `'a"b'`,
		`"a'\"b"`:       `"a'\"b"`,
		`"'\"\""`:       `'\'""'`,
		`'\\'`:          `"\\"`,
		"a/**/b /**/ c": "a/**/b c",
		"1PX/**/+2":     "1px+2",
	} {
		if got := Source(Cut(text)); got != want {
			t.Errorf("%q: %q, want %q", text, got, want)
		}
	}
}

func TestTrim(t *testing.T) {
	for text, want := range map[string]string{
		"":                "",
		" /**/ ":          "",
		" /**/ a b /**/ ": "name a|blanks|name b",
		"a":               "name a",
	} {
		if got := told(Trim(Cut(text))); got != want {
			t.Errorf("%q: %s, want %s", text, got, want)
		}
	}
	if Form(nil) != "" || Source(nil) != "" || len(Trim(nil)) != 0 || len(Cut("")) != 0 || len(Partners(nil)) != 0 {
		t.Error("nothing is nothing")
	}
}

// TestJoin: what was told piece by piece is told as one, wherever it was cut.
func TestJoin(t *testing.T) {
	all := Cut(" a/**/b 1/**/px /**/ -/**/-/**/(c d) 'e'#f/**/g @/**/h 2/**/.5 /**/% ")
	for from := range all {
		for to := from; to <= len(all); to++ {
			list := all[from:to]
			for i := range len(list) + 1 {
				holdJoin(t, list, list[:i], list[i:])
				holdJoin(t, list, nil, list[:i], nil, list[i:i], list[i:], nil)
				holdJoin(t, list, list[:i/2], list[i/2:i], list[i:])
			}
		}
	}
	if one := Join(nil); one.Text != "" || one.Count != 0 {
		t.Error("nothing is nothing")
	}
}

func holdJoin(t *testing.T, list []Token, lists ...[]Token) {
	t.Helper()
	var pieces []Told
	for _, l := range lists {
		pieces = append(pieces, Tell(l))
	}
	got, want := Join(pieces), Join([]Told{Tell(list)})
	if got != want || got.Text != Form(list) {
		t.Fatalf("%+v, want %+v", got, want)
	}
	count := 0
	for _, one := range list {
		if one.Kind != Blanks {
			count++
		}
	}
	if got.Count != count {
		t.Fatalf("%q: %d tokens, want %d", got.Text, got.Count, count)
	}
}

func TestClosed(t *testing.T) {
	for text, want := range map[string]string{
		"":           "",
		"  ":         "",
		" a b ":      "a b",
		" f(a ":      "f(a)",
		"f([{(a":     "f([{(a)}])",
		"f(a)[":      "f(a)[]",
		"(]":         "(])",
		"([)":        "([)])",
		"a)]}":       "a)]}",
		"{)} f( g()": "{)} f( g())",
	} {
		list := Cut(text)
		if got := Form(Closed(list)); got != want {
			t.Errorf("%q: %q, want %q", text, got, want)
		}
		if !same(list, Cut(text)) {
			t.Errorf("%q: what was handed over is changed", text)
		}
	}
	list := Cut("f( a;b")
	if Closed(list[:3]); !list[3].Is(";") {
		t.Error("what stands behind is changed")
	}
}

func TestPartners(t *testing.T) {
	for text, want := range map[string][]int{
		"":            {},
		"a":           {0},
		"()":          {1, 0},
		"f()":         {1, 0},
		"{[()]}":      {5, 4, 3, 2, 1, 0},
		"()[]":        {1, 0, 3, 2},
		"(a":          {2, 1},
		"([a":         {3, 3, 2},
		")":           {-1},
		"a)]}":        {0, -1, -1, -1},
		"(]":          {2, -1},
		"([)]":        {4, 3, -1, 1},
		"{)}":         {2, -1, 0},
		"f({)":        {3, 3, -1},
		"f(})":        {2, -1, 0},
		"[f(g())]":    {5, 4, 3, 2, 1, 0},
		"'(' \\) ]":   {0, 1, 2, -1, 4, -1},
		"())":         {1, 0, -1},
		"/*(*/)/*)*/": {-1},
	} {
		got := Partners(Cut(text))
		if len(got) != len(want) {
			t.Errorf("%q: %v, want %v", text, got, want)
			continue
		}
		for i := range got {
			if got[i] != want[i] {
				t.Errorf("%q: %v, want %v", text, got, want)
				break
			}
		}
	}
}

func TestThousandths(t *testing.T) {
	type answer struct {
		n  int
		ok bool
	}
	for text, want := range map[string]answer{
		"0":                               {0, true},
		"-0":                              {0, true},
		"1":                               {1000, true},
		"+1px":                            {1000, true},
		"-1.5%":                           {-1500, true},
		".5":                              {500, true},
		"-.005em":                         {-5, true},
		"12.34":                           {12340, true},
		"1.234":                           {1234, true},
		"1.2340":                          {},
		"1.0000":                          {},
		"0000000000000000000000000001.5":  {1500, true},
		"1000000":                         {1000000000, true},
		"1000000.000":                     {1000000000, true},
		"-1000000":                        {-1000000000, true},
		"1000000.001":                     {},
		"-1000000.001":                    {},
		"1000001":                         {},
		"99999999999999999999999999999.5": {},
		"18446744073709551616":            {},
		"18446744073709551":               {},
		"a":                               {},
		"'1'":                             {},
		"#1":                              {},
		" ":                               {},
	} {
		n, ok := Cut(text)[0].Thousandths()
		if n != want.n || ok != want.ok {
			t.Errorf("%q: %d %v, want %v", text, n, ok, want)
		}
	}
}

func TestParts(t *testing.T) {
	for thousandths, want := range map[int]int{
		0: 0, 1000: 64, -1000: -64, 1500: 96, 1: 0, 15: 0, 16: 1, -1: -1, -15: -1, -16: -2, 999: 63, -999: -64,
		262144000: api.MaxLen, 262143999: api.MaxLen - 1, 262145000: api.MaxLen, 1000000000: api.MaxLen,
		-262144000: -api.MaxLen, -262143999: -api.MaxLen, -262143984: -api.MaxLen + 1, -262145000: -api.MaxLen, -1000000000: -api.MaxLen,
	} {
		if got := Parts(thousandths); got != want {
			t.Errorf("%d: %d, want %d", thousandths, got, want)
		}
	}
}

func TestShare(t *testing.T) {
	for _, c := range [][4]int{
		{0, 5, 1000, 0}, {5, 0, 1000, 0}, {1024, 1500, 1000, 1536}, {1024, 50000, 100000, 512}, {3, 500, 1000, 1}, {3, -500, 1000, -2}, {2, -500, 1000, -1},
		{api.MaxLen, 1000, 1000, api.MaxLen}, {api.MaxLen, 1001, 1000, api.MaxLen}, {api.MaxLen, 1000000000, 1000, api.MaxLen}, {api.MaxLen, -1000000000, 1000, -api.MaxLen}, {api.MaxLen, 999, 1000, 16760438},
	} {
		if got := Share(c[0], c[1], c[2]); got != c[3] {
			t.Errorf("%v: %d", c, got)
		}
	}
}
