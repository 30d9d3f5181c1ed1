package tokens

import (
	"fmt"
	"strings"
	"testing"
)

// told: tokens as a text that shows their kinds, words and units.
func told(list []Token) string {
	var out []string
	for _, t := range list {
		kind := [...]string{"blanks", "string", "bad", "number", "part", "name", "function", "hash", "at", "sign"}[t.Kind]
		s := kind
		if t.Kind != Blanks {
			s += " " + t.Word
		}
		if t.Unit != "" {
			s += " " + t.Unit
		}
		out = append(out, s)
	}
	return strings.Join(out, "|")
}

func holdCuts(t *testing.T, cases map[string]string) {
	t.Helper()
	for text, want := range cases {
		if got := told(Cut(text)); got != want {
			t.Errorf("%q: %s, want %s", text, got, want)
		}
	}
}

func TestBlanksAndComments(t *testing.T) {
	holdCuts(t, map[string]string{
		"":                "",
		" ":               "blanks",
		"\t\n\f\r ":       "blanks",
		"\v":              "sign \v",
		"\x00":            "sign \x00",
		"a b":             "name a|blanks|name b",
		"/**/":            "",
		"/*":              "",
		"/*/":             "",
		"/*/*/a":          "name a",
		"a/* b */c":       "name a|name c",
		"a /* b */ c":     "name a|blanks|blanks|name c",
		"a/*b":            "name a",
		"a/**//**/b":      "name a|name b",
		"/* * / \n */a":   "name a",
		"/ *":             "sign /|blanks|sign *",
		"//**/*":          "sign /|sign *",
		"*/":              "sign *|sign /",
		"1/**/px":         "number 1|name px",
		"1/**/%":          "number 1|sign %",
		"a/**/(":          "name a|sign (",
		"#/**/a":          "sign #|name a",
		"@/**/a":          "sign @|name a",
		"-/**/a":          "sign -|name a",
		"-/**/1":          "sign -|number 1",
		"1/**/.5":         "number 1|number .5",
		`"a/*b"c*/`:       `string a/*b|name c|sign *|sign /`,
		"/*\"*/a\"":       "name a|string ",
		"\x80/**/\xff/**": "name \x80|name \xff",
	})
}

func TestStrings(t *testing.T) {
	holdCuts(t, map[string]string{
		`"a"`:            "string a",
		`'a'`:            "string a",
		`""`:             "string ",
		`"`:              "string ",
		`'`:              "string ",
		`"a`:             "string a",
		`"a'b"`:          "string a'b",
		`'a"b'`:          `string a"b`,
		`"a\"b"`:         `string a"b`,
		`"a\'b"`:         "string a'b",
		`"a\b"`:          "string ab",
		`"a\\"b`:         `string a\|name b`,
		`"a\`:            "string a",
		`"\`:             "string ",
		`"a\"`:           `string a"`,
		"\"a\nb":         "bad \"a|blanks|name b",
		"\"\n":           "bad \"|blanks",
		"'a\n'b":         "bad 'a|blanks|string b",
		"\"a\\b\nc":      "bad \"a\\b|blanks|name c",
		"\"a\\\nb\"c":    "bad \"a\\|blanks|name b|string c",
		"\"a\\\\\n":      "bad \"a\\\\|blanks",
		"'\\\n":          "bad '\\|blanks",
		"\"a\rb\fc\td\"": "string a\rb\fc\td",
		`"a""b"`:         "string a|string b",
		`"a"b`:           "string a|name b",
		"\"\x80\xff\"":   "string \x80\xff",
	})
}

func TestNumbers(t *testing.T) {
	holdCuts(t, map[string]string{
		"1":         "number 1",
		"012":       "number 012",
		"+1":        "number +1",
		"-1":        "number -1",
		"1.5":       "number 1.5",
		".5":        "number .5",
		"-.50":      "number -.50",
		"+1.0":      "number +1.0",
		"1.":        "number 1|sign .",
		"1.a":       "number 1|sign .|name a",
		".":         "sign .",
		"..5":       "sign .|number .5",
		"1..5":      "number 1|sign .|number .5",
		"1.2.3":     "number 1.2|number .3",
		"1.2.":      "number 1.2|sign .",
		"+":         "sign +",
		"++1":       "sign +|number +1",
		"+-1":       "sign +|number -1",
		"-+1":       "sign -|number +1",
		"+.":        "sign +|sign .",
		"+a":        "sign +|name a",
		"1+2":       "number 1|number +2",
		"1-2":       "number 1|number -2",
		"1-":        "number 1|sign -",
		"1px":       "number 1 px",
		"1PxX":      "number 1 pxx",
		"1.5e3":     "number 1.5 e3",
		"1e-3":      "number 1 e-3",
		"1-a":       "number 1 -a",
		"1--":       "number 1 --",
		"1--2":      "number 1 --2",
		"1_":        "number 1 _",
		"1\xc3\x89": "number 1 \xc3\x89",
		"1%":        "part 1",
		"-.5%":      "part -.5",
		"1%a":       "part 1|name a",
		"1%%":       "part 1|sign %",
		"1 %":       "number 1|blanks|sign %",
		"1 px":      "number 1|blanks|name px",
		"1px%":      "number 1 px|sign %",
		"1px(":      "number 1 px|sign (",
		"1#a":       "number 1|hash a",
	})
}

func TestNames(t *testing.T) {
	holdCuts(t, map[string]string{
		"a":          "name a",
		"aB9-_":      "name aB9-_",
		"_":          "name _",
		"-a":         "name -a",
		"-_":         "name -_",
		"-\x80":      "name -\x80",
		"\x80\xff":   "name \x80\xff",
		"é":          "name é",
		"\x7f":       "sign \x7f",
		"--":         "name --",
		"---":        "name ---",
		"--1":        "name --1",
		"--a":        "name --a",
		"-":          "sign -",
		"- a":        "sign -|blanks|name a",
		"-(":         "sign -|sign (",
		"--(":        "function --",
		"a(":         "function a",
		"a (":        "name a|blanks|sign (",
		"a(b)":       "function a|name b|sign )",
		"a[":         "name a|sign [",
		"a{b:c}":     "name a|sign {|name b|sign :|name c|sign }",
		"Z@[`z{":     "name Z|sign @|sign [|sign `|name z|sign {",
		"a\\b":       "name a|sign \\|name b",
		"#a":         "hash a",
		"#1a-_\x80":  "hash 1a-_\x80",
		"#-":         "hash -",
		"#":          "sign #",
		"##a":        "sign #|hash a",
		"#a(":        "hash a|sign (",
		"#a.b":       "hash a|sign .|name b",
		"@a":         "at a",
		"@-a":        "at -a",
		"@--":        "at --",
		"@Media":     "at Media",
		"@-":         "sign @|sign -",
		"@1":         "sign @|number 1",
		"@":          "sign @",
		"@@a":        "sign @|at a",
		"@a(":        "at a|sign (",
		"@ a":        "sign @|blanks|name a",
		"!important": "sign !|name important",
		"<!--":       "sign <|sign !|name --",
		"-->":        "name --|sign >",
	})
}

// TestPlaces: tokens tell the bytes that they are of, and what lies between them is comments alone.
func TestPlaces(t *testing.T) {
	text := "a /*x*/ #b'c\\'' 1PX/*y*/2%@d f(\"\n;/*z"
	got := ""
	for _, k := range Cut(text) {
		got += fmt.Sprintf("<%s>", text[k.From:k.To])
	}
	if want := "<a>< >< ><#b><'c\\''>< ><1PX><2%><@d>< ><f(><\"><\n><;>"; got != want {
		t.Errorf("%q, want %q", got, want)
	}
}

func TestIsAndCalled(t *testing.T) {
	list := Cut("iMPORTANT ( é f( '(' important")
	if name := list[0]; !name.Called(Name, "important") || name.Called(Function, "important") || name.Called(Name, "import") {
		t.Error("a name in letters of any size")
	}
	if sign := list[2]; !sign.Is("(") || sign.Is(")") {
		t.Error("a sign")
	}
	if !list[4].Called(Name, "é") || list[6].Called(Name, "f") || !list[6].Called(Function, "f") || list[6].Is("(") {
		t.Error("names and functions are two")
	}
	if list[9].Is("(") {
		t.Error("a string is no sign")
	}
	if Lower("AZaz@[É\xc9") != "azaz@[É\xc9" {
		t.Error("letters from A to Z alone are made small")
	}
}
