package cascade

import (
	"fmt"
	"strings"
	"testing"

	"casement/api"
)

// told: what a declaration tells, as a text.
func told(name, value string) string {
	pairs, ok := Parse(name, value)
	if ok != (len(pairs) > 0) {
		return "true and nothing, or false and something"
	}
	if !ok {
		return "none"
	}
	var list []string
	for _, p := range pairs {
		list = append(list, p.Name+"="+p.Value)
	}
	return strings.Join(list, ";")
}

// holdValues: values of a property, each with its form (empty: it may not have it).
func holdValues(t *testing.T, names string, cases map[string]string) {
	t.Helper()
	for _, name := range strings.Fields(names) {
		for value, form := range cases {
			want := "none"
			if form != "" {
				want = name + "=" + form
			}
			if got := told(name, value); got != want {
				t.Errorf("%s: %s: %s, want %s", name, value, got, want)
			}
		}
	}
}

// table: P60's, row by row in the order of the constants: names; words; kinds; the first value; whether it is handed down.
const table = `
display | none block inline inline-block flex grid contents list-item | | inline |
position | static relative absolute fixed | | static |
float | none left right | | none |
clear | none left right both | | none |
box-sizing | content-box border-box | | content-box |
width | auto | LENGTH+ EM+ PART+ | auto |
min-width | | LENGTH+ EM+ PART+ | 0px |
max-width | none | LENGTH+ EM+ PART+ | none |
height | auto | LENGTH+ EM+ PART+ | auto |
min-height | | LENGTH+ EM+ PART+ | 0px |
max-height | none | LENGTH+ EM+ PART+ | none |
margin-top margin-right margin-bottom margin-left | auto | LENGTH EM PART | 0px |
border-top-width border-right-width border-bottom-width border-left-width | | LENGTH+ EM+ | 0px |
border-color | currentcolor | COLOR | currentcolor |
padding-top padding-right padding-bottom padding-left | | LENGTH+ EM+ PART+ | 0px |
top right bottom left | auto | LENGTH EM PART | auto |
z-index | auto | WHOLE | auto |
color | | COLOR | #000000 | yes
background-color | currentcolor | COLOR | transparent |
font-size | | LENGTH+ EM+ PART+ | 16px | yes
line-height | normal | LENGTH+ EM+ PART+ NUMBER+ | normal | yes
text-align | left right center justify | | left | yes
text-indent | | LENGTH EM | 0px | yes
white-space | normal nowrap pre pre-wrap pre-line | | normal | yes
vertical-align | baseline sub super | LENGTH EM | baseline |
visibility | visible hidden | | visible | yes
pointer-events | auto none | | auto | yes
overflow | visible hidden | | visible |
content | none | STRING COUNTER | none |
list-style-type | none disc decimal lower-alpha | | disc | yes
counter-reset | none | NAMED0 | none |
counter-increment | none | NAMED1 | none |
flex-direction | row row-reverse column column-reverse | | row |
flex-wrap | nowrap wrap | | nowrap |
flex-grow | | NUMBER+ | 0 |
flex-shrink | | NUMBER+ | 1 |
flex-basis | auto | LENGTH+ EM+ PART+ | auto |
order | | WHOLE | 0 |
justify-content | start end center between around evenly | | start |
align-items | start end center stretch | | stretch |
align-self | auto start end center stretch | | auto |
row-gap column-gap | | LENGTH+ EM+ PART+ | 0px |
grid-template-columns grid-template-rows | none | TRACKS | none |
grid-column-start | auto | WHOLE200 | auto |
grid-column-span | | WHOLE20 | 1 |
grid-row-start | auto | WHOLE200 | auto |
grid-row-span | | WHOLE20 | 1 |`

// row of the table: one property.
type row struct {
	name         string
	words, kinds []string
	first        string
	down         bool
}

// allRows of the table.
var allRows = readRows()

func rows() []row { return allRows }

func readRows() []row {
	var list []row
	for _, line := range strings.Split(strings.TrimSpace(table), "\n") {
		cell := strings.Split(line, "|")
		for _, name := range strings.Fields(cell[0]) {
			list = append(list, row{name, strings.Fields(cell[1]), strings.Fields(cell[2]), strings.TrimSpace(cell[3]), strings.TrimSpace(cell[4]) == "yes"})
		}
	}
	return list
}

// samples of values, by kinds (in the order in which they are tried), each with its form.
func samples(kind string) map[string]string {
	switch kind {
	case "LENGTH", "LENGTH+":
		return map[string]string{"0": "0px", "1px": "1px", "01.50PX": "1.5px", "+.5px": "0.5px", "-0px": "0px", "0.0": "0px", "-0": "0px", "+00": "0px", "1000000px": "1000000px", "999999.999px": "999999.999px", "10.010px": "10.01px", "100px": "100px", "0.001px": "0.001px"}
	case "EM", "EM+":
		return map[string]string{"1em": "1em", "0EM": "0em", "-.0em": "0em", "2.250Em": "2.25em", "1000000.000em": "1000000em"}
	case "PART", "PART+":
		return map[string]string{"1%": "1%", "0%": "0%", "-0%": "0%", "12.50%": "12.5%", "+1000000%": "1000000%"}
	case "NUMBER+":
		return map[string]string{"1": "1", "1.50": "1.5", "1.0": "1", "+.125": "0.125", "1000000": "1000000", "007": "7"}
	case "WHOLE":
		return map[string]string{"0": "0", "-0": "0", "+1": "1", "-17": "-17", "007": "7", "1000000": "1000000", "-1000000": "-1000000"}
	case "WHOLE20":
		return map[string]string{"1": "1", "+02": "2", "20": "20"}
	case "WHOLE200":
		return map[string]string{"1": "1", "+02": "2", "200": "200"}
	case "COLOR":
		return map[string]string{"transparent": "transparent", "TransParent": "transparent", "black": "#000000", "white": "#ffffff", "red": "#ff0000", "Green": "#008000", "blue": "#0000ff", "gray": "#808080", "ORANGE": "#ffa500", "#fff": "#ffffff", "#0aF": "#00aaff", "#AbCdEf": "#abcdef", "#000000": "#000000", "#123456": "#123456"}
	case "STRING":
		return map[string]string{`"a"`: `"a"`, `'a"\b\\'`: `"a\"b\\"`, `""`: `""`, `'`: `""`, `"none"`: `"none"`, "'\xff'": "\"\xff\""}
	case "COUNTER":
		return map[string]string{"counter(x)": "counter(x)", "Counter( \tX /**/ )": "counter(X)", "counter(--x": "counter(--x)", "counter(none)": "counter(none)", "counter(/**/é/**/)": "counter(é)"}
	case "NAMED0":
		return map[string]string{"x": "x 0", "X": "X 0", "x 5": "x 5", "--x  -05": "--x -5", "x +0": "x 0", "inherit 3": "inherit 3", "é/**/ -1000000": "é -1000000"}
	case "NAMED1":
		return map[string]string{"x": "x 1", "X": "X 1", "x 5": "x 5", "--x  -05": "--x -5", "x +0": "x 0", "inherit 3": "inherit 3", "é/**/ -1000000": "é -1000000"}
	case "TRACKS":
		return map[string]string{"auto": "auto", "0": "0px", "1fr": "1fr", "0.50FR 10% auto  2em\t3px": "0.5fr 10% auto 2em 3px", "Auto/**/ /**/1px": "auto 1px", strings.Repeat("1px ", 20): strings.TrimSpace(strings.Repeat("1px ", 20))}
	case "LENGTH-":
		return map[string]string{"-1px": "-1px", "-.5PX": "-0.5px", "-1000000px": "-1000000px"}
	case "EM-":
		return map[string]string{"-1em": "-1em", "-00.10em": "-0.1em"}
	case "PART-":
		return map[string]string{"-1%": "-1%", "-12.50%": "-12.5%"}
	}
	panic(kind)
}

// wrongSamples: what no property may have.
func wrongSamples() []string {
	return []string{
		"", " ", "/**/", "nope", "1.0000px", "1.0000", "0.0000", "1000001px", "1000000.001px", "1000001", "-1000001", "1000001em", "1000001%", "1.0001em", "1.0001%", "1pt", "1 px", "1px 1px 1px 1px 1px 1em nope",
		"#ff", "#ffff", "#fffff", "#fffffff", "#ggg", "#gggggg", "#ff-", "#", "@a", "f()", "f(x)", "counter()", "counter(x y)", "counter(1)", "counter('x')", "counter(x,y)", "counter(x) counter(x)", "counter(x)/**/counter(x)", "counter(x)y",
		"(1px)", "[red]", "{auto}", "1px)", "red;", ")", "1px,2px", "1px/**/2px", "1px+2px", "\"a\nb\"", "'a''b'", "'a' 'b'", "'a'b", "red red", "auto none", "!important", "red !important", "x 1.0", "x 5px", "x 1 y 2", "x y", "none 3", "None x", "5 x", "x 1000001", "auto/**/auto",
		"inherit inherit", "initial unset", "-1fr", "1fr none", "auto/**/1px", strings.Repeat("1px ", 21), "var", "var ()", "var/**/(--x)", "'var(--x)' x", "xvar(--y)", "expression(1)", "\x00", "calc(1px)",
	}
}

func (r row) accepts() map[string]string {
	all := map[string]string{"inherit": "inherit", " INITIAL ": "initial", "/**/ unSet": "unset", "var(--x)": "var(--x)", " 1 VAR( x": " 1 VAR( x", "f([Var()])/**/": "f([Var()])/**/", "\"a\nvar(": "\"a\nvar("}
	for _, w := range r.words {
		all[w] = w
		all["\n"+strings.ToUpper(w)+"/**/\t"] = w
	}
	for i := len(r.kinds) - 1; i >= 0; i-- {
		kinds := []string{r.kinds[i]}
		switch r.kinds[i] {
		case "LENGTH", "EM", "PART":
			kinds = append(kinds, r.kinds[i]+"-")
		}
		for _, kind := range kinds {
			for value, form := range samples(kind) {
				all[value] = form
			}
		}
	}
	return all
}

func TestTableHasAllProperties(t *testing.T) {
	if list := rows(); len(list) != api.Properties {
		t.Fatal(len(list))
	}
}

// TestProperties: each of them has the values that its row names, and none that no row names.
func TestProperties(t *testing.T) {
	for _, r := range rows() {
		holdValues(t, r.name, r.accepts())
		holdWrong(t, r)
	}
}

func holdWrong(t *testing.T, r row) {
	t.Helper()
	for _, value := range wrongSamples() {
		got := told(r.name, value)
		if strings.HasPrefix(r.name, "counter-") && (value == "nope" || value == "var") {
			continue
		}
		if got != "none" {
			t.Errorf("%s: %q: %s", r.name, value, got)
		}
	}
}

func TestNumbersBelowZero(t *testing.T) {
	for _, r := range rows() {
		for _, kind := range r.kinds {
			if strings.HasSuffix(kind, "+") || strings.HasPrefix(kind, "WHOLE2") {
				holdValues(t, r.name, map[string]string{"-1px": "", "-.001em": "", "-1%": "", "-1": "", "-0.001": ""})
			}
		}
	}
	holdValues(t, "grid-template-rows", map[string]string{"-1px": "", "-1em": "", "-1%": "", "-1fr": "", "1": "", "-0fr": "0fr", "-0": "0px"})
}

func TestWholeNumbers(t *testing.T) {
	holdValues(t, "z-index order grid-column-start grid-column-span grid-row-start grid-row-span", map[string]string{"1.0": "", ".0": "", "1px": "", "1em": "", "1%": "", "0px": "", "1.": "", "1e3": ""})
	holdValues(t, "grid-column-start grid-row-start", map[string]string{"0": "", "-1": "", "201": "", "200": "200"})
	holdValues(t, "grid-column-span grid-row-span", map[string]string{"0": "", "-1": "", "21": "", "20": "20"})
	holdValues(t, "counter-reset counter-increment", map[string]string{"x 1.0": "", "x 1px": "", "x 1000001": "", "none 1": "", "1": "", "'x'": "", "x()": "", "#x": ""})
}

func TestFirstKindCounts(t *testing.T) {
	holdValues(t, "line-height", map[string]string{"0": "0px", "-0": "0px", "1": "1", "0.5": "0.5"})
	holdValues(t, "flex-grow flex-shrink", map[string]string{"0": "0", "0px": "", "-0": "0"})
	holdValues(t, "counter-reset", map[string]string{"NONE": "none", "UNSET": "unset", "nonE 1": ""})
	holdValues(t, "content", map[string]string{"NONE": "none", "'none'": `"none"`})
}

func TestNoProperties(t *testing.T) {
	for _, name := range []string{"", "-", "displa", "Color", "COLOR", "color ", "border-top", "border-left-color", "grid-column", "margin-", "font", "?margin", "x--", "-x"} {
		for _, value := range []string{"red", "1px", "inherit", "var(--x)", "none", ""} {
			if got := told(name, value); got != "none" {
				t.Errorf("%s: %s: %s", name, value, got)
			}
		}
	}
}

func TestOwnProperties(t *testing.T) {
	for _, name := range []string{"--x", "--", "--X", "---", "--1 2"} {
		for _, value := range []string{"a", " A  b ", "inherit", "UNSET", "var(--x)", "var(", ")", "\"a\nb", "/**/a", "1.00000PX", "!"} {
			if got := told(name, value); got != name+"="+value {
				t.Errorf("%s: %s: %s", name, value, got)
			}
		}
		for _, value := range []string{"", " ", "\t\n\f\r", "/**/", " /* a */ ", "/*"} {
			if got := told(name, value); got != "none" {
				t.Errorf("%s: %s: %s", name, value, got)
			}
		}
	}
}

func four(prefix, suffix string, values ...string) string {
	var list []string
	for i, side := range []string{"top", "right", "bottom", "left"} {
		list = append(list, prefix+side+suffix+"="+values[i])
	}
	return strings.Join(list, ";")
}

func TestFourSides(t *testing.T) {
	for _, c := range [][3]string{{"margin", "margin-", ""}, {"padding", "padding-", ""}, {"border-width", "border-", "-width"}, {"inset", "", ""}} {
		for value, v := range map[string][]string{
			"1px":                {"1px", "1px", "1px", "1px"},
			"0 1EM":              {"0px", "1em", "0px", "1em"},
			"1px\t2px/**/ 3px":   {"1px", "2px", "3px", "2px"},
			" 1px 2px 3px .50px": {"1px", "2px", "3px", "0.5px"},
			"Inherit":            {"inherit", "inherit", "inherit", "inherit"},
			"unset/**/":          {"unset", "unset", "unset", "unset"},
		} {
			if got, want := told(c[0], value), four(c[1], c[2], v...); got != want {
				t.Errorf("%s: %s: %s, want %s", c[0], value, got, want)
			}
		}
		for _, value := range []string{"", "1px 2px 3px 4px 5px", "1px red", "inherit 1px", "1px unset", "1px/**/2px", "1px, 2px", "none", "1px 2px 3px 4", "(1px)"} {
			if got := told(c[0], value); got != "none" {
				t.Errorf("%s: %s: %s", c[0], value, got)
			}
		}
	}
	for declaration, want := range map[string]string{
		"margin:auto -1px":  four("margin-", "", "auto", "-1px", "auto", "-1px"),
		"margin:5%":         four("margin-", "", "5%", "5%", "5%", "5%"),
		"inset:-5% AUTO":    four("", "", "-5%", "auto", "-5%", "auto"),
		"padding:auto":      "none",
		"padding:1px -1px":  "none",
		"padding:5%":        four("padding-", "", "5%", "5%", "5%", "5%"),
		"border-width:5%":   "none",
		"border-width:-1px": "none",
	} {
		name, value, _ := strings.Cut(declaration, ":")
		if got := told(name, value); got != want {
			t.Errorf("%s: %s, want %s", declaration, got, want)
		}
	}
}

func TestOtherShorthands(t *testing.T) {
	border := func(width, color string) string {
		return four("border-", "-width", width, width, width, width) + ";border-color=" + color
	}
	flex := func(grow, shrink, basis string) string {
		return "flex-grow=" + grow + ";flex-shrink=" + shrink + ";flex-basis=" + basis
	}
	for declaration, want := range map[string]string{
		"border:2px":              border("2px", "currentcolor"),
		"border:0":                border("0px", "currentcolor"),
		"border:red":              border("0px", "#ff0000"),
		"border:RED 1em":          border("1em", "#ff0000"),
		"border:1em #abc":         border("1em", "#aabbcc"),
		"border:1px transparent":  border("1px", "transparent"),
		"border:currentColor 1px": border("1px", "currentcolor"),
		"border:initial":          border("initial", "initial"),
		"border:":                 "none",
		"border:1px 2px":          "none",
		"border:red blue":         "none",
		"border:1px red 2px":      "none",
		"border:1px red blue":     "none",
		"border:1px red red":      "none",
		"border:5%":               "none",
		"border:-1px":             "none",
		"border:1px inherit":      "none",
		"border:1px solid":        "none",
		"border:1px/**/red":       "none",
		"background:Red":          "background-color=#ff0000",
		"background:currentcolor": "background-color=currentcolor",
		"background:unset":        "background-color=unset",
		"background:red red":      "none",
		"background:none":         "none",
		"gap:1px":                 "row-gap=1px;column-gap=1px",
		"gap:1px 5%":              "row-gap=1px;column-gap=5%",
		"gap:0 0":                 "row-gap=0px;column-gap=0px",
		"gap:inherit":             "row-gap=inherit;column-gap=inherit",
		"gap:":                    "none",
		"gap:1px 2px 3px":         "none",
		"gap:1px -2px":            "none",
		"gap:-2px 1px":            "none",
		"gap:1px inherit":         "none",
		"flex:None":               flex("0", "0", "auto"),
		"flex:Auto":               flex("1", "1", "auto"),
		"flex:2":                  flex("2", "1", "0px"),
		"flex:0":                  flex("0", "1", "0px"),
		"flex:.50 2.0":            flex("0.5", "2", "0px"),
		"flex:1 0":                flex("1", "0", "0px"),
		"flex:1 10PX":             flex("1", "1", "10px"),
		"flex:1 0px":              flex("1", "1", "0px"),
		"flex:1 auto":             flex("1", "1", "auto"),
		"flex:1 5%":               flex("1", "1", "5%"),
		"flex:1 2 3em":            flex("1", "2", "3em"),
		"flex:1 2 Auto":           flex("1", "2", "auto"),
		"flex:0 0 0px":            flex("0", "0", "0px"),
		"flex:initial":            flex("initial", "initial", "initial"),
		"flex:":                   "none",
		"flex:1 2 0":              "none",
		"flex:1 2 3":              "none",
		"flex:1 2 -0":             "none",
		"flex:1 10px 2":           "none",
		"flex:10px":               "none",
		"flex:10px 1":             "none",
		"flex:-1":                 "none",
		"flex:1 -1":               "none",
		"flex:1 -1px":             "none",
		"flex:auto 1":             "none",
		"flex:none 1":             "none",
		"flex:none none":          "none",
		"flex:auto auto":          "none",
		"flex:1 none":             "none",
		"flex:1 2 3px 4":          "none",
		"flex:1 2 3px 4px":        "none",
		"flex:1 auto auto":        "none",
		"flex:1 1px 1px":          "none",
		"flex:1 inherit":          "none",
	} {
		name, value, _ := strings.Cut(declaration, ":")
		if got := told(name, value); got != want {
			t.Errorf("%s: %s, want %s", declaration, got, want)
		}
	}
}

// TestReferencesStand: a value with a function var anywhere stands as it is, of a shorthand behind its name.
func TestReferencesStand(t *testing.T) {
	for _, value := range []string{"var(--x)", " 1px VAR(--y) ", "f(g[vAr(", "var() )", "}var(x)/*y*/"} {
		for name, properties := range map[string]string{
			"width":        "width",
			"content":      "content",
			"margin":       "margin-top margin-right margin-bottom margin-left",
			"padding":      "padding-top padding-right padding-bottom padding-left",
			"border-width": "border-top-width border-right-width border-bottom-width border-left-width",
			"inset":        "top right bottom left",
			"border":       "border-top-width border-right-width border-bottom-width border-left-width border-color",
			"background":   "background-color",
			"gap":          "row-gap column-gap",
			"flex":         "flex-grow flex-shrink flex-basis",
		} {
			form := "?" + name + ": " + value
			if name == properties {
				form = value
			}
			var want []string
			for _, p := range strings.Fields(properties) {
				want = append(want, p+"="+form)
			}
			if got := told(name, value); got != strings.Join(want, ";") {
				t.Errorf("%s: %s: %s, want %s", name, value, got, want)
			}
		}
	}
	holdValues(t, "width display color", map[string]string{"\"var(--x)\"": "", "/*var(*/": "", "var (--x)": "", "var": "", "vars(--x)": "", "#var(--x)": ""})
	holdValues(t, "content", map[string]string{`"var(--x)"`: `"var(--x)"`, "'var('": `"var("`})
}

func TestDecimals(t *testing.T) {
	for n := -2500; n <= 2500; n++ {
		want := strings.TrimSuffix(strings.TrimRight(fmt.Sprintf("%.3f", float64(n)/1000), "0"), ".")
		if got := decimal(n); got != want {
			t.Errorf("%d: %s, want %s", n, got, want)
		}
	}
}
