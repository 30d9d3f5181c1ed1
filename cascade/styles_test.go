package cascade

import (
	"fmt"
	"slices"
	"strconv"
	"strings"
	"testing"

	"casement/api"
	"casement/choose"
	"casement/markup"
	"casement/sheet"
	"casement/tree"
)

func mustGrow(t *testing.T, text string) *tree.Tree {
	t.Helper()
	d, err := markup.Read(text)
	if err != nil {
		t.Fatal(err)
	}
	return d
}

func mustSheet(t *testing.T, text string) *sheet.Sheet {
	t.Helper()
	s, err := sheet.Read(text)
	if err != nil {
		t.Fatal(err)
	}
	return s
}

// styled: the styles of a markup's elements, by one sheet.
func styled(t *testing.T, text, rules string) []Style {
	t.Helper()
	_, styles := Styles(mustGrow(t, text), 0, []Source{{mustSheet(t, rules), false}}, View{})
	return styles
}

// shown: a value as a text.
func shown(v api.Value) string {
	switch v.Kind {
	case api.VWord:
		return v.Text
	case api.VLength:
		return fmt.Sprint("l", v.N)
	case api.VPart:
		return fmt.Sprint("p", v.N)
	case api.VNumber:
		return fmt.Sprint("n", v.N)
	case api.VColor:
		return fmt.Sprintf("#%x", v.N)
	case api.VText:
		return fmt.Sprintf("%q %d", v.Text, v.N)
	case api.VTracks:
		return "tracks " + v.Text
	}
	return "no kind"
}

// number of a property.
func number(name string) int {
	return slices.IndexFunc(rows(), func(r row) bool { return r.name == name })
}

// wearing: what a property of a style is.
func (s Style) wearing(name string) string { return shown(s.V[number(name)]) }

func (s Style) vars() string {
	var list []string
	for _, a := range s.Vars {
		list = append(list, a.Name+":"+a.Value)
	}
	return strings.Join(list, "; ")
}

// firstShown: the table's first values, as they are shown.
func firstShown(first string) string {
	switch first {
	case "0px":
		return "l0"
	case "16px":
		return "l1024"
	case "0", "1":
		return "n" + strconv.Itoa(1000*int(first[0]-'0'))
	case "#000000", "currentcolor":
		return "#0"
	case "transparent":
		return "#-1"
	}
	return first
}

func TestFirstValues(t *testing.T) {
	s := styled(t, "<a><b></b></a>", "")
	for i, r := range rows() {
		for at, one := range s {
			want := firstShown(r.first)
			if r.name == "display" && at == 0 {
				want = "block"
			}
			if got := shown(one.V[i]); got != want {
				t.Errorf("%s of %d: %s, want %s", r.name, at, got, want)
			}
		}
	}
	if len(s) != 2 || len(s[0].V) != api.Properties || len(s[0].Vars) != 0 {
		t.Error(s)
	}
}

// other value of a property than its first one, and how it is shown.
func other(r row) (string, string) {
	for _, w := range r.words {
		if w != r.first && r.name != "border-color" && r.name != "background-color" {
			return w, w
		}
	}
	switch r.kinds[0] {
	case "LENGTH", "LENGTH+":
		return "2px", "l128"
	case "COLOR":
		return "red", "#ff0000"
	case "STRING":
		return "'a\"'", `"a\"" 0`
	case "NAMED0", "NAMED1":
		return "X -7", `"X" -7`
	case "TRACKS":
		return "auto 1px", "tracks auto l64"
	}
	return "7", "n7000"
}

func TestEachPropertyIsToldAndHandedDown(t *testing.T) {
	for _, r := range rows() {
		value, want := other(r)
		first := firstShown(r.first)
		after := first
		if r.down {
			after = want
		}
		for text, shows := range map[string]string{
			r.name + ":" + value + "}":                                            want + " " + after + " " + after,
			r.name + ":" + value + "}b{" + r.name + ":inherit}":                   want + " " + want + " " + after,
			r.name + ":" + value + "}b{" + r.name + ":initial}":                   want + " " + first + " " + first,
			r.name + ":" + value + "}b{" + r.name + ":unset}":                     want + " " + after + " " + after,
			r.name + ":" + value + "}b{" + r.name + ":nope nope nope}":            want + " " + after + " " + after,
			r.name + ":" + value + "}b{" + r.name + ":var(--nope)}":               want + " " + after + " " + after,
			"--x:" + value + "}b{" + r.name + ":var(--x)}":                        first + " " + want + " " + map[bool]string{true: want, false: first}[r.down],
			"--x:inherit;" + r.name + ":" + value + "}b{" + r.name + ":var(--x)}": want + " " + want + " " + after,
		} {
			s := styled(t, "<o><a><b><c></c></b></a></o>", "a{"+text)
			got := shown(s[1].V[number(r.name)]) + " " + shown(s[2].V[number(r.name)]) + " " + shown(s[3].V[number(r.name)])
			if got != shows {
				t.Errorf("%s: %s, want %s", text, got, shows)
			}
		}
	}
}

// TestNoParent: the first values stand for the parent's.
func TestNoParent(t *testing.T) {
	for _, r := range rows() {
		for _, value := range []string{"inherit", "unset", "initial", "var(--x)"} {
			s := styled(t, "<a></a><b></b>", "*{"+r.name+":"+value+"}")
			want := firstShown(r.first)
			if r.name == "display" {
				want = "block"
			}
			if len(s) != 2 || s[0].wearing(r.name) != want || s[1].wearing(r.name) != want {
				t.Errorf("%s: %s", r.name, s[0].wearing(r.name))
			}
		}
	}
	s := styled(t, "<a></a>", "a{color:red;border-color:inherit;background-color:currentcolor;font-size:2em;width:1em}")[0]
	if got := s.wearing("border-color") + s.wearing("background-color") + s.wearing("font-size") + s.wearing("width"); got != "#0#ff0000l2048l2048" {
		t.Error(got)
	}
}

func TestRootAmongOthers(t *testing.T) {
	d := mustGrow(t, "<a>x<b>y<c><!--z--></c></b></a><d></d>")
	l := []Source{{mustSheet(t, "a{color:red;--x:1}a b{width:1px}*{display:contents}b>c{color:blue}"), false}}
	ids, styles := Styles(d, 3, l, View{})
	if !slices.Equal(ids, []int{3, 5}) || len(styles) != 2 {
		t.Fatal(ids, styles)
	}
	b, c := styles[0], styles[1]
	if got := b.wearing("color") + b.wearing("width") + b.wearing("display") + b.vars() + c.wearing("color") + c.wearing("display"); got != "#0l64block#ffcontents" {
		t.Error(got)
	}
	ids, styles = Styles(d, 0, l, View{})
	if !slices.Equal(ids, []int{1, 3, 5, 7}) || len(styles) != 4 || styles[1].wearing("color") != "#ff0000" || styles[1].vars() != "--x:1" || styles[3].wearing("display") != "block" {
		t.Error(ids, styles)
	}
}

func TestNothingOfNothing(t *testing.T) {
	d := mustGrow(t, "<a>x<!--y--></a>")
	l := []Source{{nil, false}, {nil, true}, {&sheet.Sheet{}, true}}
	for _, root := range []int{2, 3, 4, -1, 400, 1 << 40, -1 << 63} {
		if ids, styles := Styles(d, root, l, View{}); len(ids) != 0 || len(styles) != 0 {
			t.Error(root, ids, styles)
		}
	}
	if ids, styles := Styles(nil, 0, l, View{}); len(ids) != 0 || len(styles) != 0 {
		t.Error(ids, styles)
	}
	if ids, styles := Styles(d, 0, nil, View{Width: -5, Height: 1 << 62}); len(ids) != 1 || styles[0].wearing("color") != "#0" {
		t.Error(ids, styles)
	}
	if ids, _ := Styles(d, 0, l, View{State: choose.State{Hover: []int{-7, 900}, Focus: []int{1}}}); len(ids) != 1 {
		t.Error(ids)
	}
}

// TestAnswersAreNew: what is written into an answer is seen nowhere else.
func TestAnswersAreNew(t *testing.T) {
	d := mustGrow(t, "<a><b></b><c></c></a>")
	l := []Source{{mustSheet(t, "a{--x:1;color:red;color:var(--y)}"), false}}
	_, styles := Styles(d, 0, l, View{})
	for i := range styles[0].V {
		styles[0].V[i] = api.Value{Kind: 9, Text: "x"}
	}
	styles[0].Vars[0].Value = "2"
	styles[0].Vars = append(styles[0].Vars, api.Attr{})
	if styles[1].V[0].Kind == 9 || styles[1].vars() != "--x:1" || styles[2].vars() != "--x:1" {
		t.Error(styles[1])
	}
	_, again := Styles(d, 0, l, View{})
	if again[0].V[0].Kind == 9 || again[0].vars() != "--x:1" {
		t.Error(again[0])
	}
}

func TestWhatWins(t *testing.T) {
	for _, c := range []struct {
		base, first, second, style, want string
	}{
		{"", "", "", "", "#0"},
		{"b{color:red}", "", "", "", "#ff0000"},
		{"#i.k.k{color:red}", "b{color:blue}", "", "", "#ff"},
		{"#i.k.k{color:red}", "*{color:blue}", "", "", "#ff"},
		{"b{color:red!important}", "b{color:blue!important}", "", "color:white!important", "#ff0000"},
		{"b{color:red!important}", "#i{color:blue!important}", "", "", "#ff0000"},
		{"b{color:red}", "b{color:blue!important}", "#i{color:green}", "color:white", "#ff"},
		{"", "b{color:red!important}", "b{color:blue}", "color:white!important", "#ffffff"},
		{"", "#i#i#i{color:red!important}", "", "color:white!important", "#ffffff"},
		{"", "#i{color:red!important}", "b{color:blue!important}", "color:white", "#ff0000"},
		{"", "#i#i.k.k{color:red}", "", "color:white", "#ffffff"},
		{"", "b{color:red}", "b{color:blue}", "", "#ff"},
		{"", "b{color:red}b{color:green}", "", "", "#8000"},
		{"", "b{color:red;color:green}", "", "", "#8000"},
		{"", "b{color:red;color:nope}", "", "", "#ff0000"},
		{"", "b{color:red!important;color:green}", "", "", "#ff0000"},
		{"", "b{color:red!important;color:green!important}", "", "", "#8000"},
		{"", ".k{color:red}", "b{color:blue}", "", "#ff0000"},
		{"", "#i{color:red}", ".k.k.k b, b.k.k.k{color:blue}", "", "#ff0000"},
		{"", "b.k{color:red}", ".k.k{color:blue}", "", "#ff"},
		{"", "b.k{color:red}", ".k{color:blue}", "", "#ff0000"},
		{"", "a b{color:red}", "b{color:blue}", "", "#ff0000"},
		{"", "b, #i{color:red}", "b.k{color:blue}", "", "#ff0000"},
		{"", "#i, b{color:red}", "b.k{color:blue}", "", "#ff0000"},
		{"", "b, #j{color:red}", "b.k{color:blue}", "", "#ff"},
		{"", "#j, b{color:red}", "*{color:blue}", "", "#ff0000"},
		{"", "*{color:red}", "", "", "#ff0000"},
		{"", "a{color:red}", "c{color:blue}", "", "#ff0000"},
		{"", "a{color:red}", "b{color:initial}", "", "#0"},
		{"", "a{color:red}", "b::x{color:blue}, b{color:blue}", "", "#ff0000"},
		{"", "a{color:red}", "b,{color:blue}", "", "#ff0000"},
		{"", "a{color:red}", "{color:blue}", "", "#ff0000"},
		{"", "@media print{b{color:red}}@media nope{b{color:red}}", "@media (min-width:100px){b{color:blue}}", "", "#ff"},
		{"", "@media (min-width:101px){b{color:red}}", "@media (max-height:49px){b{color:blue}}", "", "#0"},
		{"", "@media (max-width:100px) and (min-height:50px){b{color:red}}", "", "", "#ff0000"},
		{"@media screen{b{color:red}}", "", "", "", "#ff0000"},
		{"", "b:hover{color:red}", "b:focus{color:blue}", "", "#ff"},
		{"", "a:hover{color:red}", "a:focus{color:blue}", "", "#0"},
		{"", "b{color:blue}", "", "color:RED;nope;color:nope", "#ff0000"},
		{"", "b{color:blue}", "", "color:red;color:white", "#ffffff"},
		{"", "b{color:blue}", "", "color:red!important;color:white", "#ff0000"},
		{"", "b{color:blue}", "", "}color:red", "#ff"},
		{"b{color:blue!important}", "b{color:unset!important}", "", "", "#ff"},
		{"b{color:blue}", "b{color:unset}", "", "", "#0"},
	} {
		d := mustGrow(t, "<a><b id=i class=k style='"+c.style+"'></b></a>")
		l := []Source{{mustSheet(t, c.base), true}, {mustSheet(t, c.first), false}, {nil, false}, {mustSheet(t, c.second), false}}
		_, s := Styles(d, 0, l, View{Width: 6400, Height: 3200, State: choose.State{Hover: []int{2}, Focus: []int{2}}})
		if got := s[1].wearing("color"); got != c.want {
			t.Errorf("%+v: %s", c, got)
		}
	}
}

// TestBaseSourcesAnywhere: a base source is one wherever it stands, and there may be more.
func TestBaseSourcesAnywhere(t *testing.T) {
	red, blue, strong := mustSheet(t, "a{color:red}"), mustSheet(t, "a{color:blue}"), mustSheet(t, "a{color:white!important}")
	for _, c := range []struct {
		l    []Source
		want string
	}{
		{[]Source{{red, false}, {blue, true}}, "#ff0000"},
		{[]Source{{red, true}, {blue, true}}, "#ff"},
		{[]Source{{blue, true}, {red, true}}, "#ff0000"},
		{[]Source{{strong, true}, {red, false}}, "#ffffff"},
		{[]Source{{red, false}, {red, false}, {blue, false}}, "#ff"},
		{[]Source{{blue, false}, {blue, false}, {red, true}}, "#ff"},
	} {
		_, s := Styles(mustGrow(t, "<a>"), 0, c.l, View{})
		if got := s[0].wearing("color"); got != c.want {
			t.Errorf("%v: %s, want %s", c.l, got, c.want)
		}
	}
}

func TestPropertiesWinAlone(t *testing.T) {
	s := styled(t, "<a style='margin-left:9px'></a>", "a{margin:1px!important}a{margin-top:2px;margin-right:3px!important;margin-bottom:4px}#a{margin:5px}")[0]
	if got := s.wearing("margin-top") + s.wearing("margin-right") + s.wearing("margin-bottom") + s.wearing("margin-left"); got != "l64l192l64l64" {
		t.Error(got)
	}
	s = styled(t, "<a>", "a{margin:1px;margin-top:2px}a{margin-left:var(--x);margin-right:3px 4px}a{border:1px red}a{border-width:2px}a{border:3px 4px}")[0]
	if got := s.wearing("margin-top") + s.wearing("margin-right") + s.wearing("margin-left") + s.wearing("border-top-width") + s.wearing("border-color"); got != "l128l64l0l128#ff0000" {
		t.Error(got)
	}
}

func TestSheetsThatWereNotRead(t *testing.T) {
	s := &sheet.Sheet{Rules: []sheet.Rule{
		{Head: "a", Decls: []sheet.Decl{{Name: "width", Value: " 1px "}, {Name: "HEIGHT", Value: "1px"}, {Name: "--x", Value: " 1PX  /**/ f(a "}, {Name: "--y", Value: "a)"}, {Name: "top", Value: "var(--x"}, {Name: "left", Value: "var(--z,2px"}}},
		{Head: "a b c >", Decls: []sheet.Decl{{Name: "width", Value: "5px"}}},
		{Media: "(", Head: "a", Decls: []sheet.Decl{{Name: "width", Value: "5px"}}},
		{Media: " screen ", Head: " a ", Decls: []sheet.Decl{{Name: "right", Value: "3px"}}},
		{},
	}}
	_, l := Styles(mustGrow(t, "<a>"), 0, []Source{{s, false}}, View{})
	if got := l[0].wearing("width") + l[0].wearing("height") + l[0].wearing("top") + l[0].wearing("left") + l[0].wearing("right") + " " + l[0].vars(); got != "l64autoautol128l192 --x:1px f(a); --y:a)" {
		t.Error(got)
	}
}

// TestTextsThatAreReadOtherwise: a BAD token, which no sheet that was read has, may make a text be read as another one.
func TestTextsThatAreReadOtherwise(t *testing.T) {
	s := &sheet.Sheet{Rules: []sheet.Rule{{Head: "a", Decls: []sheet.Decl{{Name: "--x", Value: "\"\n 'var(--q)' \""}, {Name: "width", Value: "var(--x)"}, {Name: "color", Value: "\"\nvar(--q)"}}}}}
	_, l := Styles(mustGrow(t, "<a>"), 0, []Source{{s, false}}, View{})
	if got := l[0].wearing("width") + l[0].wearing("color"); got != "auto#0" {
		t.Error(got)
	}
}

// What is handed down is the parent's, be it told or handed down to it; all else is as of an element of which nothing is told.
func TestHandDown(t *testing.T) {
	rules := "b{"
	for _, c := range []string{"color:red", "font-size:2em", "line-height:150%", "text-align:center", "text-indent:-1em", "white-space:pre", "visibility:hidden", "pointer-events:none", "list-style-type:decimal", "--x:1", "--y:var(--x) 2", "border:2px blue", "background:red", "display:flex", "position:fixed", "margin:1em", "content:'x'", "counter-reset:n", "flex:2", "gap:1px", "vertical-align:super", "width:50%"} {
		rules += c + ";"
	}
	for _, r := range []string{"", rules + "}", rules + "}a{--z:3;color:blue;font-size:3px}", "a{color:transparent;border-color:red;--z:3}"} {
		all := styled(t, "<a><b><c>", r)
		parent := all[1]
		got := HandDown(parent)
		if fmt.Sprint(got) != fmt.Sprint(all[2]) {
			t.Errorf("%s: %v, want %v", r, got, all[2])
		}
		clear(got.V)
		clear(got.Vars)
		if fmt.Sprint(parent) != fmt.Sprint(styled(t, "<a><b><c>", r)[1]) {
			t.Errorf("%s: the parent's style is another one", r)
		}
	}
}
