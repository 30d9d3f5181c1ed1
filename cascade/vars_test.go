package cascade

import (
	"fmt"
	"strings"
	"testing"

	"casement/api"
	"casement/sheet"
)

// holdVars: own properties of an element a and of b in it, by rules.
func holdVars(t *testing.T, cases map[string]string) {
	t.Helper()
	for rules, want := range cases {
		s := styled(t, "<a><b></b></a>", rules)
		if got := s[0].vars() + " | " + s[1].vars(); got != want {
			t.Errorf("%s: %s, want %s", rules, got, want)
		}
	}
}

func TestVarsAreHandedDown(t *testing.T) {
	holdVars(t, map[string]string{
		"":                                  " | ",
		"a{--x:1}":                          "--x:1 | --x:1",
		"b{--x:1}":                          " | --x:1",
		"a{--x:1}b{--x:2}":                  "--x:1 | --x:2",
		"a{--x:1;--y:2}b{--x:3;--z:4}":      "--x:1; --y:2 | --x:3; --y:2; --z:4",
		"a{--x:inherit}b{--x:UNSET}":        "--x:inherit | --x:UNSET",
		"a{--b:1;--B:2;--a:3;--:4;--a-b:5}": "--:4; --B:2; --a:3; --a-b:5; --b:1 | --:4; --B:2; --a:3; --a-b:5; --b:1",
		"a{--x:1!important;--x:2}b{--x:3}":  "--x:1 | --x:3",
		"a{--x: A  1PX /**/'b' ;--y:)}":     `--x:A 1px "b" | --x:A 1px "b"`,
		"a{--x:;--y:/**/;--z:!important}":   " | ",
		"a{--x:{a;b:c}}":                    "--x:{a;b:c} | --x:{a;b:c}",
	})
}

func TestReferencesArePutIn(t *testing.T) {
	holdVars(t, map[string]string{
		"a{--x:1;--y:var(--x)}":                                 "--x:1; --y:1 | --x:1; --y:1",
		"a{--y:var(--x);--x:1}":                                 "--x:1; --y:1 | --x:1; --y:1",
		"a{--x:1}b{--y:var(--x)}":                               "--x:1 | --x:1; --y:1",
		"a{--x:1;--y:var(--x)}b{--x:2}":                         "--x:1; --y:1 | --x:2; --y:1",
		"a{--x:1}b{--x:2;--y:var(--x)}":                         "--x:1 | --x:2; --y:2",
		"b{--x:1}a{--y:var(--x,2)}":                             "--y:2 | --x:1; --y:2",
		"a{--X:1;--y:var(--x,2) var(--X)}":                      "--X:1; --y:2 1 | --X:1; --y:2 1",
		"a{--:1;--y:var(--)}":                                   "--:1; --y:1 | --:1; --y:1",
		"a{--x:1;--y:VAR( --x )}":                               "--x:1; --y:1 | --x:1; --y:1",
		"a{--x:1;--y:var(/**/ /**/--x/**/\t,/**/)}":             "--x:1; --y:1 | --x:1; --y:1",
		"a{--x:1;--y:f(var(--x)) [var(--x){var(--x)}]}":         "--x:1; --y:f(1) [1{1}] | --x:1; --y:f(1) [1{1}]",
		"a{--x:1;--y:f(g(h(var(--x":                             "--x:1; --y:f(g(h(1))) | --x:1; --y:f(g(h(1)))",
		"a{--x:1;--y:avar(--x) -var(--x)}":                      "--x:1; --y:avar(--x) -var(--x) | --x:1; --y:avar(--x) -var(--x)",
		"a{--x:1;--y:'var(--x)'}":                               `--x:1; --y:"var(--x)" | --x:1; --y:"var(--x)"`,
		"a{--x:1;--y:var(--x) var(--x)var(--x)/**/var(--x)a":    "--x:1; --y:1 1/**/1/**/1/**/a | --x:1; --y:1 1/**/1/**/1/**/a",
		"a{--x:1;--y:avar(--z,)}":                               "--x:1; --y:avar(--z,) | --x:1; --y:avar(--z,)",
		"a{--x:a;--y:var(--x)(b)}":                              "--x:a; --y:a/**/(b) | --x:a; --y:a/**/(b)",
		"a{--x:a;--y:#var(--x)}":                                "--x:a; --y:#var(--x) | --x:a; --y:#var(--x)",
		"a{--x:a;--y:# var(--x)}":                               "--x:a; --y:# a | --x:a; --y:# a",
		"a{--x:a;--y:#/**/var(--x)}":                            "--x:a; --y:#/**/a | --x:a; --y:#/**/a",
		"a{--x:'a';--y:var(--x)var(--x)}":                       `--x:"a"; --y:"a""a" | --x:"a"; --y:"a""a"`,
		"a{--w:1;--x:var(--w) 2;--y:3 var(--x);--z:[var(--y)]}": "--w:1; --x:1 2; --y:3 1 2; --z:[3 1 2] | --w:1; --x:1 2; --y:3 1 2; --z:[3 1 2]",
	})
}

func TestFallbacks(t *testing.T) {
	holdVars(t, map[string]string{
		"a{--y:var(--x,1)}":                         "--y:1 | --y:1",
		"a{--y:var(--x)}":                           " | ",
		"a{--y:1}b{--y:var(--x)}":                   "--y:1 | ",
		"a{--y:1}b{--y:var(--x,)}":                  "--y:1 | ",
		"a{--y:var(--x,) }":                         " | ",
		"a{--y:a var(--x,) b}":                      "--y:a b | --y:a b",
		"a{--y:a var(--x, ) b}":                     "--y:a b | --y:a b",
		"a{--y:[var(--x,)]}":                        "--y:[] | --y:[]",
		"a{--y:[var(--x, a  b )]}":                  "--y:[a b] | --y:[a b]",
		"a{--y:[ var(--x,a) ]}":                     "--y:[ a ] | --y:[ a ]",
		"a{--y:[ var(--x,) ]}":                      "--y:[ ] | --y:[ ]",
		"a{--y:var(--x,a,b(c,d),e)}":                "--y:a,b(c,d),e | --y:a,b(c,d),e",
		"a{--y:var(--x,,)}":                         "--y:, | --y:,",
		"a{--y:var(--x,var(--z,1))}":                "--y:1 | --y:1",
		"a{--y:var(--x,var(--z))}":                  " | ",
		"a{--z:2;--y:var(--x,a var(--z) b)}":        "--y:a 2 b; --z:2 | --y:a 2 b; --z:2",
		"a{--z:2;--y:var(--z,var(--x))}":            "--y:2; --z:2 | --y:2; --z:2",
		"a{--z:2;--y:var(--z,a)c}":                  "--y:2/**/c; --z:2 | --y:2/**/c; --z:2",
		"a{--y:a var(--x, b":                        "--y:a b | --y:a b",
		"a{--y:var(--x,f(b":                         "--y:f(b) | --y:f(b)",
		"a{--y:a(var(--x,a)b)}":                     "--y:a(a/**/b) | --y:a(a/**/b)",
		"a{--y:var(--x, var(--z,) a)b}":             "--y:a/**/b | --y:a/**/b",
		"a{--n:var(--o);--y:var(--n,1)}":            "--y:1 | --y:1",
		"a{--n:var(--o);--y:var(--n)}":              " | ",
		"a{--n:1}b{--n:var(--o);--y:var(--n,2)}":    "--n:1 | --y:2",
		"a{--n:var(--o)}b{--o:1}":                   " | --o:1",
		"a{--y:var(--x,a var(--z) b);--w:1}":        "--w:1 | --w:1",
		"a{--y:var(--x,1) var(--z,2) var(--x,3)}":   "--y:1 2 3 | --y:1 2 3",
		"a{--y:var(--x,1) var(--z) var(--x,3)}":     " | ",
		"a{--y:var(--x,{a;b})}":                     "--y:{a;b} | --y:{a;b}",
		"a{--y:var(--x,1)!important}b{--y:2}":       "--y:1 | --y:2",
		"a{--y:var(--x /**/ , /**/ 1 /**/ 2 /**/)}": "--y:1 2 | --y:1 2",
	})
}

func TestWrongReferences(t *testing.T) {
	holdVars(t, map[string]string{
		"a{--x:1;--y:var()}":                            "--x:1 | --x:1",
		"a{--x:1;--y:var(x)}":                           "--x:1 | --x:1",
		"a{--x:1;--y:var(-x)}":                          "--x:1 | --x:1",
		"a{--x:1;--y:var('--x')}":                       "--x:1 | --x:1",
		"a{--x:1;--y:var(--x --x)}":                     "--x:1 | --x:1",
		"a{--x:1;--y:var(--x 1)}":                       "--x:1 | --x:1",
		"a{--x:1;--y:var(--x;)}":                        "--x:1 | --x:1",
		"a{--x:1;--y:var(,)}":                           "--x:1 | --x:1",
		"a{--x:1;--y:var(--x()}":                        "--x:1 | --x:1",
		"a{--x:1;--y:var((--x))}":                       "--x:1 | --x:1",
		"a{--x:1;--y:var(var(--x))}":                    "--x:1 | --x:1",
		"a{--x:1;--y:var(--x/**/-)}":                    "--x:1 | --x:1",
		"a{--x:1;--y:a var(x,1) b}":                     "--x:1 | --x:1",
		"a{--x:1;--y:var(--x,var())}":                   "--x:1 | --x:1",
		"a{--x:1;--y:var(--x,a [f(var(x))])}":           "--x:1 | --x:1",
		"a{--x:1;--y:var(--z,var(--x,VAR()))}":          "--x:1 | --x:1",
		"a{--x:1;--y:var(--x) f(var(1))}":               "--x:1 | --x:1",
		"a{--x:1;--y:2}b{--y:var(x)}":                   "--x:1; --y:2 | --x:1",
		"a{--x:1;--y:var(--z,var(x));--w:var(--y,3)}":   "--w:3; --x:1 | --w:3; --x:1",
		"a{--x:1;--y:var(--x,'var()' vars() var)}":      "--x:1; --y:1 | --x:1; --y:1",
		"a{--x:1;--y:var(--x, var (--x) a/**/var (x))}": "--x:1; --y:1 | --x:1; --y:1",
	})
}

func TestRings(t *testing.T) {
	holdVars(t, map[string]string{
		"a{--x:var(--x)}":                                                                          " | ",
		"a{--x:1}b{--x:var(--x)}":                                                                  "--x:1 | ",
		"a{--x:1}b{--x:var(--x,2)}":                                                                "--x:1 | ",
		"a{--x:var(--y);--y:var(--x)}":                                                             " | ",
		"a{--x:1;--y:2}b{--x:var(--y);--y:var(--x)}":                                               "--x:1; --y:2 | ",
		"a{--x:1;--y:2}b{--x:var(--y)}":                                                            "--x:1; --y:2 | --x:2; --y:2",
		"a{--y:var(--x)}b{--x:var(--y)}":                                                           " | ",
		"a{--y:var(--x,1)}b{--x:var(--y)}":                                                         "--y:1 | --x:1; --y:1",
		"a{--x:var(--y,1);--y:var(--z,1);--z:var(--x,1)}":                                          " | ",
		"a{--x:var(--n,var(--y));--y:var(--n,1) var(--x,2)}":                                       " | ",
		"a{--n:1;--x:var(--n,var(--x))}":                                                           "--n:1 | --n:1",
		"a{--n:1;--x:var(--n,var(--y));--y:var(--n,f([var(--x)]))}":                                "--n:1 | --n:1",
		"a{--x:var(--x);--y:var(--x)}":                                                             " | ",
		"a{--x:var(--x);--y:var(--x,1)}":                                                           "--y:1 | --y:1",
		"a{--x:var(--y);--y:var(--y);--z:var(--x,1)}":                                              "--z:1 | --z:1",
		"a{--x:var(--y,1);--y:var(--y)}":                                                           "--x:1 | --x:1",
		"a{--x:var(--y,1) var(--z,2);--y:var(--y);--z:var(--z)}":                                   "--x:1 2 | --x:1 2",
		"a{--a:var(--b,1);--b:var(--a,1);--c:var(--a,2) var(--d);--d:3}":                           "--c:2 3; --d:3 | --c:2 3; --d:3",
		"a{--a:var(--b,1);--b:var(--c,1);--c:var(--b,1) var(--d,1);--d:var(--e,1);--e:var(--d,2)}": "--a:1 | --a:1",
		"a{--a:var(--b,0) var(--c,0);--b:var(--d,1);--c:var(--d,2);--d:3}":                         "--a:3 3; --b:3; --c:3; --d:3 | --a:3 3; --b:3; --c:3; --d:3",
		"a{--a:var(--b,1);--b:var(--c,2) var(--d,3);--c:4;--d:var(--a,5)}":                         "--c:4 | --c:4",
		"a{--x:var(--y) var(bad);--y:var(--x,1)}":                                                  " | ",
		"a{--x:var(bad, var(--y));--y:var(--x,1)}":                                                 " | ",
		"a{--x:var(--X,1);--X:var(--y,2);--y:3}":                                                   "--X:3; --x:3; --y:3 | --X:3; --x:3; --y:3",
	})
}

// TestManyVars: values that would be of far too many bytes are none, and it takes no time to see that.
func TestManyVars(t *testing.T) {
	rules := "a{--a0:0123456789;"
	for i := 1; i < 60; i++ {
		rules += fmt.Sprintf("--a%d:var(--a%d,x)/**/;/**/--b%d:var(--a%d,y)var(--a%d)var(--a%d);", i, i-1, i, i-1, i-1, i-1)
	}
	s := styled(t, "<a></a>", rules+"}")
	if len(s[0].Vars) != 119 {
		t.Error(len(s[0].Vars))
	}
	rules = "a{--a0:'0123456';"
	for i := 1; i < 200; i++ {
		rules += fmt.Sprintf("--a%d:var(--a%d)var(--a%d);", i, i-1, i-1)
	}
	s = styled(t, "<a></a>", rules+"}")
	if len(s[0].Vars) != 12 {
		t.Error(len(s[0].Vars)) // 9 bytes, 2048 times
	}
}

// TestManyWays: what is known of a property is not found out anew, be it there or not.
func TestManyWays(t *testing.T) {
	rules := "a{--a0:var(--q,);"
	for i := 1; i < 99; i++ {
		rules += fmt.Sprintf("--a%d:var(--a%d,)var(--a%d,);", i, i-1, i-1)
	}
	if got := styled(t, "<a></a>", rules+"--z:var(--a98,1)}")[0].vars(); got != "--z:1" {
		t.Error(got)
	}
}

func TestBytesOfAValue(t *testing.T) {
	of := func(first, second string) string {
		s := &sheet.Sheet{Rules: []sheet.Rule{{Head: "a", Decls: []sheet.Decl{{Name: "--x", Value: first}, {Name: "--y", Value: second}, {Name: "content", Value: second}}}}}
		_, l := Styles(mustGrow(t, "<a>"), 0, []Source{{s, false}}, View{})
		told := ""
		for _, a := range l[0].Vars {
			told += fmt.Sprint(a.Name, len(a.Value), " ")
		}
		return told + fmt.Sprint(l[0].V[api.PContent].Kind, len(l[0].V[api.PContent].Text))
	}
	long := func(n int) string { return strings.Repeat("a", n) }
	for _, c := range [][3]string{
		{long(20000), "1", "--x20000 --y1 1 4"},
		{long(20001), "1", "--y1 1 4"},
		{" " + long(20000) + "/* */ ", "1", "--x20000 --y1 1 4"},
		{long(20001), "var(--x)", "1 4"},
		{long(20001), "var(--x,b)", "--y1 1 4"},
		{long(20000), "var(--x,b)", "--x20000 --y20000 1 4"},
		{long(20000), " var(--x) ", "--x20000 --y20000 1 4"},
		{long(20000), "var(--x),", "--x20000 1 4"},
		{long(19999), "var(--x),", "--x19999 --y20000 1 4"},
		{long(9999), "var(--x) ,var(--x)", "--x9999 --y20000 1 4"},
		{long(9999), "var(--x) , var(--x)", "--x9999 1 4"},
		{long(9998), "var(--x)var(--x)", "--x9998 --y20000 1 4"},
		{long(9999), "var(--x)var(--x)", "--x9999 1 4"},
		{long(9998), "var(--x)var(--n,)var(--x)", "--x9998 --y20000 1 4"},
		{"'" + long(19998) + "'", "var(--x)", "--x20000 --y20000 6 19998"},
		{"'" + long(19999) + "'", "'" + long(30000) + "'", "6 30000"},
		{"'" + strings.Repeat(`"`, 9999) + "'", "var(--x)", "--x20000 --y20000 6 9999"},
		{"'" + strings.Repeat(`"`, 10000) + "'", "var(--x)", "1 4"},
	} {
		if got := of(c[0], c[1]); got != c[2] {
			t.Errorf("%.20q, %.40q: %s, want %s", c[0], c[1], got, c[2])
		}
	}
}
