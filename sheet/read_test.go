package sheet

import (
	"errors"
	"strings"
	"testing"

	"casement/api"
)

// shown: declarations as a text.
func shown(list []Decl) string {
	s := ""
	for _, d := range list {
		s += d.Name + "=" + d.Value
		if d.Strong {
			s += "!"
		}
		s += ";"
	}
	return s
}

// told: a sheet as a text.
func told(s *Sheet) string {
	text := ""
	for _, r := range s.Rules {
		text += "[" + r.Media + "|" + r.Head + "|" + shown(r.Decls) + "]"
	}
	return text
}

func holdReads(t *testing.T, cases map[string]string) {
	t.Helper()
	for text, want := range cases {
		s, err := Read(text)
		if err != nil || s == nil {
			t.Errorf("%q: %v", text, err)
			continue
		}
		if got := told(s); got != want {
			t.Errorf("%q: %s, want %s", text, got, want)
		}
	}
}

func holdDeclarations(t *testing.T, cases map[string]string) {
	t.Helper()
	for text, want := range cases {
		if got := shown(Declarations(text)); got != want {
			t.Errorf("%q: %s, want %s", text, got, want)
		}
	}
}

func TestRules(t *testing.T) {
	holdReads(t, map[string]string{
		"":                      "",
		" /*x*/ ":               "",
		"a{}":                   "[|a|]",
		" a { } b { } ":         "[|a|][|b|]",
		"a{}b{}":                "[|a|][|b|]",
		"a{b:c}d{e:f;g:h}":      "[|a|b=c;][|d|e=f;g=h;]",
		"a{":                    "[|a|]",
		"a{b:c":                 "[|a|b=c;]",
		"a":                     "",
		"a b":                   "",
		"a{}b":                  "[|a|]",
		"{}":                    "[||]",
		" { a:b } ":             "[||a=b;]",
		"/**/{}":                "[||]",
		"a;b{}":                 "[|a;b|]",
		";{}":                   "[|;|]",
		"; a{}":                 "[|; a|]",
		"}a{}":                  "[|}a|]",
		"a{}}b{}":               "[|a|][|}b|]",
		"} } a{}":               "[|} } a|]",
		"a)]b{}":                "[|a)]b|]",
		"a(b{c}d)e{}":           "[|a(b{c}d)e|]",
		"a[b{c:d}]{}":           "[|a[b{c:d}]|]",
		"a f(;{){}":             "",
		"a f(;{}){}":            "[|a f(;{})|]",
		"a(b{}":                 "",
		"a[)]{}":                "[|a[)]|]",
		"a(}){}":                "[|a(})|]",
		"a( ] ){}":              "[|a( ] )|]",
		"a[({]}){}":             "",
		"A.B #C{}":              "[|A.B #C|]",
		"a  >\n b/**/c /**/ {}": "[|a > b/**/c|]",
		"a[b='c\"d']{}":         `[|a[b="c\"d"]|]`,
		"a '{' b{}":             `[|a "{" b|]`,
		"a 1PX{}":               "[|a 1px|]",
		"!{}":                   "[|!|]",
		"<!-- a{} -->b{}":       "[|<!-- a|][|-->b|]",
	})
}

func TestAts(t *testing.T) {
	holdReads(t, map[string]string{
		"@x;a{}":              "[|a|]",
		"@x y 'z';a{}":        "[|a|]",
		"@x":                  "",
		"@x a{}":              "",
		"@x{}a{}":             "[|a|]",
		"@x{b{c:d}}a{}":       "[|a|]",
		"@x{(})}a{}":          "[|a|]",
		"@x{a{}":              "",
		"@x(;{);a{}":          "",
		"@x(;{});a{}":         "[|a|]",
		"@x[;]{;}a{}":         "[|a|]",
		"@x};a{}":             "[|a|]",
		"@x}{}a{}":            "[|a|]",
		"@mediax{b{}}a{}":     "[|a|]",
		"@ media{b{}}":        "[|@ media|]",
		"@1{}":                "[|@1|]",
		"a @x{}":              "[|a @x|]",
		"a;@x{}":              "[|a;@x|]",
		"a{}@x;b{}":           "[|a|][|b|]",
		"'\n@x{}":             "",
		"@x '\n{a{}}b{}":      "[|b|]",
		"@x '\n;b{}":          "[|b|]",
		"/**/@x{}":            "",
		"@x\n{}@y\n;z{}":      "[|z|]",
		"@--x{}a{}":           "[|a|]",
		"a{@x{b:c}d:e;f:g}":   "[|a|f=g;]",
		"a{@media x{b{}}c:d}": "[|a|]",
		"a{@x;b:c}":           "[|a|b=c;]",
	})
}

func TestMedia(t *testing.T) {
	holdReads(t, map[string]string{
		"@media x{a{}}":                     "[x|a|]",
		"@MeDiA x{a{}}":                     "[x|a|]",
		"@media  (a : B)  and\tc  {a{b:c}}": "[(a : B) and c|a|b=c;]",
		"@media{a{}}":                       "[|a|]",
		"@media(x){a{}}":                    "[(x)|a|]",
		"@media x{}":                        "",
		"@media x{ }a{}":                    "[|a|]",
		"@media x;a{}":                      "[|a|]",
		"@media x":                          "",
		"@media":                            "",
		"@media x{":                         "",
		"@media x{a":                        "",
		"@media x{a{":                       "[x|a|]",
		"@media x{a{b:(c":                   "[x|a|b=(c);]",
		"@media x{a{}b{}}c{}":               "[x|a|][x|b|][|c|]",
		"@media x{a{} b}c{}":                "[x|a|][|c|]",
		"@media x{a}{}":                     "[||]",
		"@media x{a}}b{}":                   "[|}b|]",
		"@media x{@y}a{}":                   "[|a|]",
		"@media x{@y;a{}}":                  "[x|a|]",
		"@media x{@y{b{}}a{}}":              "[x|a|]",
		"@media x{@media y{b{}}a{}}":        "[x|a|]",
		"@media x{@media y;a{}}":            "[x|a|]",
		"@media x{;a{}}":                    "[x|;a|]",
		"@media x{a(}){}}b{}":               "[x|a(})|][|b|]",
		"@media x{a]{}}b{}":                 "[x|a]|][|b|]",
		"@media x{{}}b{}":                   "[x||][|b|]",
		"@media x{a{}@media y{b{}}}@media z{c{}}": "[x|a|][z|c|]",
		"@media }x{a{}}b{}":                       "[}x|a|][|b|]",
		"@media x(;){a{}}":                        "[x(;)|a|]",
		"@media x({}){a{}}":                       "[x({})|a|]",
		"@media '\n{a{}}b{}":                      "[|b|]",
		"@media f('\n){a{}b{}}c{}":                "[|c|]",
		"@media x{'\na{}b{}}c{}":                  "[x|b|][|c|]",
		"@media/**/x/**/y{a{}}":                   "[x/**/y|a|]",
		"@media x{a{b:c}}}d{}":                    "[x|a|b=c;][|}d|]",
		"@media x{a{b:c)}}d{}":                    "[x|a|][|d|]",
		"@media x{a{b:(c}}d{}":                    "[x|a|]",
	})
}

func TestBadHeads(t *testing.T) {
	holdReads(t, map[string]string{
		"'a\n{b:c}d{}":   "[|d|]",
		"a '\nb{c:d}e{}": "[|e|]",
		"a('\n){}e{}":    "[|e|]",
		"'a\\\n{}b{}":    "[|b|]",
		"a 'b":           "",
		"a 'b{}":         "",
		"a{'\n}b{}":      "[|a|][|b|]",
		"a{b:'\n}c{}":    "[|a|][|c|]",
	})
}

func TestDeclarations(t *testing.T) {
	holdDeclarations(t, map[string]string{
		"":                     "",
		" ; ;; ":               "",
		"a:b":                  "a=b;",
		" a : b ":              "a=b;",
		"a:b;":                 "a=b;",
		";a:b;;c:d;":           "a=b;c=d;",
		"a/**/:/**/b":          "a=b;",
		"a /**/ : /**/ b":      "a=b;",
		"A-b:C":                "a-b=C;",
		"Äb:c;AÄ:d":            "Äb=c;aÄ=d;",
		"--Ab:C":               "--Ab=C;",
		"--:a":                 "--=a;",
		"-A:b":                 "-a=b;",
		"_A:b":                 "_a=b;",
		"a:b c":                "a=b c;",
		"a:b:c":                "a=b:c;",
		"a::":                  "a=:;",
		"a":                    "",
		"a b:c":                "",
		"a(:b":                 "",
		"a(b):c;d:e":           "d=e;",
		"1:b":                  "",
		"1a:b;#a:b;@a:b;'a':b": "",
		":b":                   "",
		"a:;b:c":               "b=c;",
		"a: ;b:c":              "b=c;",
		"a:/**/;b:c":           "b=c;",
		"a;b:c":                "b=c;",
		"a=b;c:d":              "c=d;",
		"(;b:c);d:e":           "d=e;",
		"a{b:c}d:e;f:g":        "f=g;",
		"a:{b:c}d:e;f:g":       "a={b:c}d:e;f=g;",
		"a:{b;c};d:e":          "a={b;c};d=e;",
		"a:(b;c);d:e":          "a=(b;c);d=e;",
		"a:[b;c];d:e":          "a=[b;c];d=e;",
		"a:f(b;c);d:e":         "a=f(b;c);d=e;",
		"a:(b;c;d:e":           "a=(b;c;d:e);",
		"a:b)c;d:e":            "d=e;",
		"a:b]":                 "",
		"a:b}":                 "",
		"a:(b];c);d:e":         "d=e;",
		"a:([b)];c:d":          "",
		"a:(]":                 "",
		"a:};b:c":              "b=c;",
		"}a:b;c:d":             "c=d;",
		"a}:b;c:d":             "c=d;",
		"a:b;} f:g; h:i":       "a=b;h=i;",
		"a:'\n;b:c":            "b=c;",
		"a:'x\n;b:c":           "b=c;",
		"a:('\n);b:c":          "b=c;",
		"a:b '\n":              "",
		"'\n;a:b":              "a=b;",
		"a'\n:b;c:d":           "c=d;",
		"a:';b:c":              `a=";b:c";`,
		"a:@x":                 "a=@x;",
		"a:-->":                "a=-->;",
		"a:b//c":               "a=b//c;",
		"a:\\":                 "a=\\;",
	})
}

func TestWhatTheEndCloses(t *testing.T) {
	holdDeclarations(t, map[string]string{
		"a:(":               "a=();",
		"a:( ":              "a=();",
		"a:f(":              "a=f();",
		"a:f( /**/ ":        "a=f();",
		"a:(b":              "a=(b);",
		"a:(b ":             "a=(b);",
		"a:(b /**/ ":        "a=(b);",
		"a:( b":             "a=( b);",
		"a:(b )":            "a=(b );",
		"a:(b [c ] ":        "a=(b [c ]);",
		"a:f(b[c{d(e ":      "a=f(b[c{d(e)}]);",
		"a:[b 'c":           `a=[b "c"];`,
		"a:{b;":             "a={b;};",
		"a:(!important":     "a=(!important);",
		"a:( !important ":   "a=( !important);",
		"a:b (c)!important": "a=b (c)!;",
		"a:'b":              `a="b";`,
		"a:'b !important":   `a="b !important";`,
		"a:(b/*":            "a=(b);",
	})
	holdReads(t, map[string]string{
		"x{a:(b ":            "[|x|a=(b);]",
		"x{a:(b }":           "[|x|]",
		"x{a:{b ":            "[|x|a={b};]",
		"x{a:{b }":           "[|x|a={b };]",
		"@media m{x{a:f([b ": "[m|x|a=f([b]);]",
		"x{a:b ":             "[|x|a=b;]",
	})
}

func TestStrong(t *testing.T) {
	holdDeclarations(t, map[string]string{
		"a:b!important":                   "a=b!;",
		"a:b !important":                  "a=b!;",
		"a:b ! important ":                "a=b!;",
		"a:b /**/ ! /**/ IMPORTANT /**/ ": "a=b!;",
		"a:b!/**/important":               "a=b!;",
		"a:b! /**/ important;c:d":         "a=b!;c=d;",
		"a:!important":                    "",
		"a: ! important ;c:d":             "c=d;",
		"a:important":                     "a=important;",
		"a:b important":                   "a=b important;",
		"a:b !":                           "a=b !;",
		"a:b !importan":                   "a=b !importan;",
		"a:b !importants":                 "a=b !importants;",
		"a:b !'important'":                `a=b !"important";`,
		"a:b !important c":                "a=b !important c;",
		"a:b !important!":                 "a=b !important!;",
		"a:b !!important":                 "a=b !!;",
		"a:!!important":                   "a=!!;",
		"a:b !important !important":       "a=b !important!;",
		"a:(b !important)":                "a=(b !important);",
		"a:(b) !important":                "a=(b)!;",
		"a:b !#important":                 "a=b !#important;",
		"a:b !@important":                 "a=b !@important;",
		"a:b !important(":                 "a=b !important();",
		"a:b) !important":                 "",
		"a:'\n !important":                "",
		"--A:b!important":                 "--A=b!;",
		"--a:!important":                  "",
	})
	holdReads(t, map[string]string{"x{a:b!important}y{a:c ! important": "[|x|a=b!;][|y|a=c!;]"})
}

func TestFormOfHeadsAndValues(t *testing.T) {
	holdReads(t, map[string]string{
		"a/**/b{c:d/**/e}":        "[|a/**/b|c=d/**/e;]",
		"a/**/.b{c:d/**/,e}":      "[|a.b|c=d,e;]",
		"a{b:1/**/px 2PX 3/**/%}": "[|a|b=1/**/px 2px 3/**/%;]",
		"a{b:\"\\\"\\\\'\"}":      `[|a|b="\"\\'";]`,
		"a{b:'\\\"'}":             `[|a|b="\"";]`,
		"a{b:f( x )  g (y)}":      "[|a|b=f( x ) g (y);]",
		"a{b:+1 -.50 1.0}":        "[|a|b=+1 -.50 1.0;]",
		"a{b:Url(X) #AbC}":        "[|a|b=Url(X) #AbC;]",
		"a{b:1 /**/ 2}":           "[|a|b=1 2;]",
	})
}

func fault(t *testing.T, text string, at int) {
	t.Helper()
	s, err := Read(text)
	var f *api.Fault
	if s != nil || !errors.As(err, &f) || f.At != at || f.Err != api.ErrBound {
		t.Errorf("%.20q: %v %v, want a bound at %d", text, s, err, at)
	}
}

func fine(t *testing.T, text string, rules int) {
	t.Helper()
	s, err := Read(text)
	if err != nil || len(s.Rules) != rules {
		t.Errorf("%.20q: %v", text, err)
	}
}

func TestBounds(t *testing.T) {
	rules, decls := strings.Repeat("a{}", api.MaxRules), strings.Repeat("b:c;", api.MaxDecls)
	fine(t, rules, api.MaxRules)
	fine(t, rules+" b", api.MaxRules)
	fine(t, rules+"@x{}'\n{}@media'\n{a{}}@media{@media{b{}}}", api.MaxRules)
	fault(t, rules+" /**/ b{}", len(rules)+6)
	fault(t, rules+"{}", len(rules))
	fault(t, rules+" /**/{}", len(rules)+5)
	fault(t, rules+"@media x{ b{}}", len(rules)+10)
	fault(t, rules+"b{a:'\n}", len(rules))
	fault(t, rules+"'\n{} b{", len(rules)+5)
	fine(t, "a{"+decls+"}", 1)
	fine(t, "a{"+decls+"d;e:;f:'\n;g:)}h{}", 2)
	fine(t, "a{"+decls+"}'\n{b:c}@media '\n{a{b:c}}@x{a{b:c}}", 1)
	fault(t, "a{"+decls+" /**/ d:e}", len(decls)+8)
	fault(t, "a{"+decls+"}b{;; D : e", len(decls)+8)
	fault(t, "a{"+decls+"}@media x{y{d:e}}", len(decls)+14)
	fault(t, "a{"+decls+"d:e;f:g}"+rules, len(decls)+2)
	fault(t, rules[3:]+"a{"+decls+"}"+"b{d:e}", len(rules)+len(decls))
	fine(t, strings.Repeat(" ", api.MaxText), 0)
	fine(t, "a{"+strings.Repeat(" ", api.MaxText-2), 1)
	fault(t, strings.Repeat(" ", api.MaxText+1), api.MaxText)
	fault(t, rules+"b{}"+strings.Repeat(" ", api.MaxText), api.MaxText)
}

func TestBoundsOfDeclarations(t *testing.T) {
	text := strings.Repeat("b:c;", api.MaxDecls)
	for more, want := range map[string]int{"": api.MaxDecls, "d:e": api.MaxDecls, "d:e;f:g": api.MaxDecls} {
		list := Declarations(text + more)
		if len(list) != want || list[want-1].Name != "b" {
			t.Errorf("%q: %d", more, len(list))
		}
	}
	if list := Declarations("a:;" + text); len(list) != api.MaxDecls {
		t.Error("what is none counts")
	}
	full := "a:b;" + strings.Repeat(" ", api.MaxText-4)
	if len(Declarations(full)) != 1 || len(Declarations(full+" ")) != 0 {
		t.Error("the bound of a text")
	}
}

// TestNewMemory: what one answer is changed to, no other one shows.
func TestNewMemory(t *testing.T) {
	a, _ := Read("a{b:c;d:e}f{g:h}")
	b, _ := Read("a{b:c;d:e}f{g:h}")
	a.Rules[0].Decls = append(a.Rules[0].Decls, Decl{Name: "x"})
	a.Rules[0].Decls[1].Name = "y"
	if told(b) != "[|a|b=c;d=e;][|f|g=h;]" || a.Rules[1].Decls[0].Name != "g" {
		t.Error(told(a), told(b))
	}
}
