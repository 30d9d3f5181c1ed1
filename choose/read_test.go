package choose

import (
	"errors"
	"strings"
	"testing"

	"casement/api"
)

// mustRead a list that is one.
func mustRead(t *testing.T, text string) *List {
	t.Helper()
	l, err := Read(text)
	if err != nil || l == nil {
		t.Fatalf("%.60q: %v", text, err)
	}
	return l
}

// holdTexts: texts that are lists, and their one form, which is read as itself.
func holdTexts(t *testing.T, cases map[string]string) {
	t.Helper()
	for text, want := range cases {
		l, err := Read(text)
		if err != nil || l == nil {
			t.Errorf("%q: %v", text, err)
			continue
		}
		if got := l.Text(); got != want {
			t.Errorf("%q: %q, want %q", text, got, want)
		}
		if again, err := Read(want); err != nil || again.Text() != want {
			t.Errorf("%q is not read as itself: %v", want, err)
		}
	}
}

// holdFaults: texts that are no lists, and where.
func holdFaults(t *testing.T, kind error, cases map[string]int) {
	t.Helper()
	for text, at := range cases {
		var f *api.Fault
		l, err := Read(text)
		if l != nil || !errors.As(err, &f) {
			t.Errorf("%.60q: %v, want %v at %d", text, err, kind, at)
		} else if f.Err != kind || f.At != at {
			t.Errorf("%.60q: %v at %d, want %v at %d", text, err, f.At, kind, at)
		}
	}
}

func TestListsAndJoints(t *testing.T) {
	holdTexts(t, map[string]string{
		"a":                      "a",
		" a ":                    "a",
		"\t\n\f\ra\r":            "a",
		"*":                      "*",
		"a,b":                    "a, b",
		" a , b , c ":            "a, b, c",
		"a/**/,/**/b":            "a, b",
		"a b":                    "a b",
		"a \t b":                 "a b",
		"a /**/ b":               "a b",
		"a/**/ b":                "a b",
		"a /**/b":                "a b",
		"/**/a/**/":              "a",
		"a>b":                    "a > b",
		"a >b":                   "a > b",
		"a> b":                   "a > b",
		"a/**/>/**/b":            "a > b",
		"a+b":                    "a + b",
		"a+-b":                   "a + -b",
		"a~b":                    "a ~ b",
		"a > b + c ~ d e":        "a > b + c ~ d e",
		"* *":                    "* *",
		"*>*":                    "* > *",
		"a #b":                   "a #b",
		"a .b":                   "a .b",
		"a /**/.b":               "a .b",
		"a [b]":                  "a [b]",
		"a :root":                "a :root",
		"a *":                    "a *",
		"a, b c > d,*":           "a, b c > d, *",
		"a > .b:nth-child(2n+1)": "a > .b:nth-child(2n+1)",
	})
	holdFaults(t, api.ErrText, map[string]int{
		"":          0,
		" ":         1,
		"/**/":      4,
		"/*":        2,
		",":         0,
		"a,":        2,
		"a, ":       3,
		",a":        0,
		"a,,b":      2,
		"a, ,b":     3,
		">":         0,
		"> a":       0,
		"a >":       3,
		"a > ":      4,
		"a >,b":     3,
		"a > > b":   4,
		"a + ~ b":   4,
		"a~~b":      2,
		"a +1":      2,
		"a+.5":      1,
		"a ~= b":    3,
		"a/**/b":    5,
		"a/**/*":    5,
		"a*":        1,
		"*a":        1,
		"**":        1,
		"a)":        1,
		"a )":       2,
		"a]":        1,
		"a{":        1,
		"a;":        1,
		"a|b":       1,
		"a 1":       2,
		"1":         0,
		"1px":       0,
		"5%":        0,
		"'a'":       0,
		"a 'b'":     2,
		"@a":        0,
		"a(":        0,
		"a b(c)":    2,
		"a,b(":      2,
		"(a)":       0,
		"\"\n":      0,
		"a \"x\nb":  2,
		"a,'x\nb'":  2,
		"a > 'b\n":  4,
		"a/b":       1,
		"a\\b":      1,
		"\x00":      0,
		"a\vb":      1,
		"a b c 'd'": 6,
	})
}

func TestCompounds(t *testing.T) {
	holdTexts(t, map[string]string{
		"DiV":           "div",
		"É":             "É",
		"-A":            "-a",
		"--X":           "--x",
		"_":             "_",
		"#Ab":           "#Ab",
		"#1":            "#1",
		"#-":            "#-",
		".Ab":           ".Ab",
		".-a":           ".-a",
		".--":           ".--",
		"*.x":           ".x",
		"*#x":           "#x",
		"*[x]":          "[x]",
		"*:root":        ":root",
		"*:not(*)":      ":not(*)",
		"a.b#c[d]:root": "a.b#c[d]:root",
		".b.b#c.a":      ".b.b#c.a",
		"[a][b]#c":      "[a][b]#c",
		":root.a":       ":root.a",
		":not(a).b":     ":not(a).b",
	})
	holdFaults(t, api.ErrText, map[string]int{
		".":              1,
		". a":            1,
		"./**/a":         5,
		"./**/":          5,
		"..a":            1,
		".#a":            1,
		".5":             0,
		".a(":            1,
		".'a'":           1,
		".*":             1,
		"a.":             2,
		"a.1":            1,
		"a. b":           2,
		"#":              0,
		"# a":            0,
		"#/**/a":         0,
		"a#":             1,
		"a/**/.b":        5,
		"a/**/#b":        5,
		"a/**/[b]":       5,
		"a/**/:root":     5,
		".a/**/.b":       6,
		"[a]/**/.b":      7,
		":root/**/.b":    9,
		":not(a)/**/.b":  11,
		"[a]b":           3,
		"[a]*":           3,
		":root*":         5,
		":not(a)b":       7,
		":nth-child(1)a": 13,
		"#a*":            2,
		".a*":            2,
		".a'b'":          2,
		"a.b\"\n":        3,
	})
}

func TestAttributes(t *testing.T) {
	holdTexts(t, map[string]string{
		"[a]":                    "[a]",
		"[ A ]":                  "[a]",
		"[/**/a/**/]":            "[a]",
		"[a=b]":                  `[a="b"]`,
		"[A=B]":                  `[a="B"]`,
		"[a='B']":                `[a="B"]`,
		"[ a = b ]":              `[a="b"]`,
		"[\ta\n=\fb\r]":          `[a="b"]`,
		"[/**/a/**/=/**/b/**/]":  `[a="b"]`,
		"[a ~= b]":               `[a~="b"]`,
		"[a|=b]":                 `[a|="b"]`,
		"[a^=b]":                 `[a^="b"]`,
		"[a$=b]":                 `[a$="b"]`,
		"[a*=b]":                 `[a*="b"]`,
		"[a=\"\"]":               `[a=""]`,
		`[a="b\"c\\d\'e\f"]`:     `[a="b\"c\\d'ef"]`,
		`[a='"']`:                `[a="\""]`,
		"[a='/*x*/ ]']":          `[a="/*x*/ ]"]`,
		"[a=--b]":                `[a="--b"]`,
		"[a-=b]":                 `[a-="b"]`,
		"[\xff=\xfe]":            "[\xff=\"\xfe\"]",
		"[a=b][c][d~='e f']":     `[a="b"][c][d~="e f"]`,
		":not( [ a = 'b)' ] ) c": `:not([a="b)"]) c`,
	})
	holdFaults(t, api.ErrText, map[string]int{
		"[":           1,
		"[ ":          2,
		"[]":          1,
		"[ ]":         2,
		"[a":          2,
		"[a ":         3,
		"[a=":         3,
		"[a=b":        4,
		"[a='b]":      6,
		"[a=b ":       5,
		"[=b]":        1,
		"[*]":         1,
		"['a']":       1,
		"[1]":         1,
		"[#a]":        1,
		"[a(]":        1,
		"[a b]":       3,
		"[a/**/b]":    6,
		"[a==b]":      3,
		"[a=]":        3,
		"[a= ]":       4,
		"[a=1]":       3,
		"[a=#b]":      3,
		"[a=b c]":     5,
		"[a=b'c']":    4,
		"[a=b(]":      3,
		"[a~b]":       3,
		"[a~]":        3,
		"[a~":         3,
		"[a~ =b]":     3,
		"[a~/**/=b]":  7,
		"[a~~=b]":     3,
		"[a|==b]":     4,
		"[a!=b]":      2,
		"[a>=b]":      2,
		"[a/*=b]":     7,
		"[a=\"b\n\"]": 3,
		"[a)":         2,
		"[a.b]":       2,
		"[a:b]":       2,
	})
}

func TestStates(t *testing.T) {
	for _, name := range strings.Fields("root empty first-child last-child only-child first-of-type last-of-type hover focus") {
		holdTexts(t, map[string]string{":" + name: ":" + name, "a:" + strings.ToUpper(name) + " b": "a:" + name + " b"})
		holdFaults(t, api.ErrText, map[string]int{":" + name + "(": 1, ":" + name + "s": 1, ": " + name: 1, ":/**/" + name: 5, "::" + name: 1})
	}
	holdFaults(t, api.ErrText, map[string]int{
		":":                    1,
		"a:":                   2,
		": ":                   1,
		":foo":                 1,
		":'root'":              1,
		":#root":               1,
		":1":                   1,
		":)":                   1,
		":nth-child":           1,
		":nth-child (1)":       1,
		":nth-child/**/(1)":    1,
		":nth-last-of-type(1)": 1,
		":only-of-type":        1,
		":not":                 1,
		":not (a)":             1,
		":is":                  1,
		":has":                 1,
		":where(a)":            1,
		":(":                   1,
		":first-\xc3\xa9":      1,
	})
}

func TestFormulas(t *testing.T) {
	for said, want := range map[string]string{
		"odd":              "2n+1",
		"even":             "2n+0",
		" oDD\t":           "2n+1",
		"EVEN\n":           "2n+0",
		"4":                "0n+4",
		"+4":               "0n+4",
		"-3":               "0n-3",
		"0":                "0n+0",
		"-0":               "0n+0",
		"007":              "0n+7",
		"1000000":          "0n+1000000",
		"-1000000":         "0n-1000000",
		"00000000001":      "0n+1",
		"n":                "1n+0",
		"N":                "1n+0",
		"+n":               "1n+0",
		"-n":               "-1n+0",
		"2n":               "2n+0",
		"+2n":              "2n+0",
		"-2n":              "-2n+0",
		"-0n-0":            "0n+0",
		"2n+1":             "2n+1",
		"2n + 1":           "2n+1",
		"2n +1":            "2n+1",
		"2n+ 1":            "2n+1",
		"2n\t-\f\r\n1":     "2n-1",
		"n-1":              "1n-1",
		"-n-1":             "-1n-1",
		"-n+3":             "-1n+3",
		"-1n - 3":          "-1n-3",
		"0n+4":             "0n+4",
		"-1000000n+00":     "-1000000n+0",
		"n+1000000":        "1n+1000000",
		"n-1000000":        "1n-1000000",
		" \f-N + 3\r ":     "-1n+3",
		"01n+01":           "1n+1",
		"+1000000N-000001": "1000000n-1",
	} {
		for _, name := range []string{"nth-child", "nth-last-child", "nth-of-type"} {
			holdTexts(t, map[string]string{
				":" + name + "(" + said + ")":                          ":" + name + "(" + want + ")",
				"a :" + strings.ToUpper(name) + "(" + said + ").b , c": "a :" + name + "(" + want + ").b, c",
			})
		}
	}
	for _, said := range []string{
		"", " ", "x", "2x", "o dd", "odds", "evenn", "+odd", "-even", "odd+1", "+", "-", "+-1", "--1", "++1", "- 1", "+ 1", "1.0", "1 2", "1e3",
		"1000001", "-1000001", "99999999999999999999999", "1000001n", "n+1000001", "n-1000001", "18446744073709551617n",
		"2 n", "+ n", "- n", "- 2n", "--n", "+-n", "n+", "n -", "n+-1", "n--1", "n + +1", "n 1", "n1", "2n1", "nn", "n+n", "n+1n", "n+1.5", "1.5n", "n + 1 2", "n+ + 1",
		"2n/**/+1", "/**/1", "1/*", "'1", "\"\n", "(1", "a(", "1\v", "\v1", "1,2", "n\x00", "\xff", "n+\xb1", "١",
	} {
		holdFaults(t, api.ErrText, map[string]int{
			":nth-child(" + said + ")":                 11,
			"a, b:nth-last-child( " + said + "\n).c":   20,
			"a > :nth-of-type(" + said + ")) ' \n x )": 17,
		})
		text := ":nth-child(" + said
		holdFaults(t, api.ErrText, map[string]int{text: len(text), text + " .a,b \"\n": len(text) + 8})
	}
	holdFaults(t, api.ErrText, map[string]int{
		":nth-child(/*)*/1)": 11,
		":nth-child('1)')":   11,
		":nth-child(2":       12,
		":nth-child(2) )":    14,
		":nth-child(2))":     13,
		":nth-child(2)\"\n":  13,
		":nth-child(2)/**/b": 17,
	})
}

func TestNested(t *testing.T) {
	holdTexts(t, map[string]string{
		":not(a)":                       ":not(a)",
		":NOT( A )":                     ":not(a)",
		":Is(a,b)":                      ":is(a, b)",
		":hAs(a > b)":                   ":has(a > b)",
		":not(/**/a/**/)":               ":not(a)",
		":not(:not(:not(*)))":           ":not(:not(:not(*)))",
		":has(:is(:not(a)))":            ":has(:is(:not(a)))",
		":is(:has(a), :has(b))":         ":is(:has(a), :has(b))",
		":has(a):has(b) :has(c)":        ":has(a):has(b) :has(c)",
		":not(:has(a) b) :is(c:has(d))": ":not(:has(a) b) :is(c:has(d))",
		":not( a , .b > c ) + d":        ":not(a, .b > c) + d",
		":is([a=')'])":                  `:is([a=")"])`,
		":is(:nth-child( 1 ))":          ":is(:nth-child(0n+1))",
	})
	holdFaults(t, api.ErrText, map[string]int{
		":not(":                           5,
		":not( ":                          6,
		":not()":                          5,
		":not( )":                         6,
		":not(a":                          6,
		":not(a ":                         7,
		":not(a,":                         7,
		":not(a,)":                        7,
		":not(a]":                         6,
		":not(> a)":                       5,
		":has(> a)":                       5,
		":not(a > )":                      9,
		":not(a))":                        7,
		":is(a) )":                        7,
		":not(a(":                         5,
		":not(1)":                         5,
		":not(\"\n)":                      5,
		":not(a \"\n)":                    7,
		":has(:has(a))":                   6,
		":has(a, b :HAS(c))":              11,
		":has(:not(:is(:has(a))))":        15,
		":is(:has(:not(a :has(b))))":      17,
		":has(a:not(b), c:is(d, :has(":    24,
		":is(:has(a)b)":                   11,
		":not(a):":                        8,
		":has(a):has(:not(b) ) :has(:has": 28,
	})
}

func TestReadBounds(t *testing.T) {
	most := strings.Repeat("a ", api.MaxItems)
	nots := strings.Repeat(":not(", api.MaxDeep)
	close := strings.Repeat(")", api.MaxDeep)
	long := strings.Repeat(" ", api.MaxText-1) + "a"
	for _, text := range []string{
		most,
		strings.Repeat("a,", api.MaxItems-1) + "a",
		strings.Repeat("a ", api.MaxItems-2) + "a:is(b)",
		strings.Repeat(":is(a)", api.MaxItems/2) + strings.Repeat(" a", api.MaxItems/2-1),
		nots + "a" + close,
		nots + "a" + close + nots + "a" + close,
		strings.Repeat(":is(", api.MaxDeep-1) + ":has(a" + close,
		long,
	} {
		mustRead(t, text)
	}
	holdFaults(t, api.ErrBound, map[string]int{
		most + "a":           2 * api.MaxItems,
		most + ".":           2 * api.MaxItems,
		most + ":x":          2 * api.MaxItems,
		most + "[":           2 * api.MaxItems,
		most + "#x":          2 * api.MaxItems,
		most + "*":           2 * api.MaxItems,
		most + ",  a":        2*api.MaxItems + 3,
		most + "> a \"\n":    2*api.MaxItems + 2,
		most[2:] + "a:is(b)": 2*(api.MaxItems-1) + 5,
		strings.Repeat(":is(a)", api.MaxItems/2) + strings.Repeat(" a", api.MaxItems/2): 6*api.MaxItems/2 + 2*(api.MaxItems/2) - 1,
		nots + ":not(a":                        5*api.MaxDeep + 1,
		nots + ":is(":                          5*api.MaxDeep + 1,
		nots + "a:has(":                        5*api.MaxDeep + 2,
		nots + "a" + close + nots + "b c:is(a": 11*api.MaxDeep + 5,
		long + " ":                             api.MaxText,
		strings.Repeat("\"\n", api.MaxText):    api.MaxText,
	})
	holdFaults(t, api.ErrText, map[string]int{
		most + "1":                   2 * api.MaxItems,
		most + ")":                   2 * api.MaxItems,
		most + "a(":                  2 * api.MaxItems,
		most + ">":                   2*api.MaxItems + 1,
		most + ", ":                  2*api.MaxItems + 2,
		"1 " + most + "a":            0,
		nots + ":nots(":              5*api.MaxDeep + 1,
		nots + ":where(":             5*api.MaxDeep + 1,
		"\"\n" + nots + ":not(":      0,
		long[1:] + ">":               api.MaxText,
		":has(" + nots[5:] + ":has(": 5*api.MaxDeep + 1,
	})
}

func TestTextThatIsTooLong(t *testing.T) {
	text := strings.Repeat("[a=b]", api.MaxText/5)
	l := mustRead(t, text)
	if want := strings.Repeat(`[a="b"]`, api.MaxText/5); l.Text() != want {
		t.Error("a form may be longer than what is read")
	}
	holdFaults(t, api.ErrBound, map[string]int{l.Text(): api.MaxText})
}
