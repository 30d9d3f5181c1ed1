package sheet

import (
	"math"
	"testing"

	"casement/api"
)

// holdMedia: of a page of 10 pixels by 5.
func holdMedia(t *testing.T, want bool, texts ...string) {
	t.Helper()
	for _, text := range texts {
		if Applies(text, 640, 320) != want {
			t.Errorf("%q: not %v", text, want)
		}
	}
}

func TestWords(t *testing.T) {
	holdMedia(t, true, "", " \n", "/**/", "screen", "all", " SCREEN ", "All", "/**/screen/**/")
	holdMedia(t, false, "print", "PRINT", "tv", "and", "screens", "'screen'", "screen all", "screen(", "screen()", "#screen", "@screen", "screen;", "not screen", "only screen", "screen print", "print all", "1", "'\n", "screen '\n", "()", "(screen)", "{}", "screen/**/all")
}

func TestConditions(t *testing.T) {
	holdMedia(t, true,
		"(min-width: 10px)", "(min-width:10px)", " ( min-width : 10px ) ", "(MIN-Width:10PX)", "(/**/min-width/**/:/**/10px/**/)",
		"(max-width: 10px)", "(min-height: 5px)", "(max-height: 5px)", "(max-width:10.001px)", "(min-width:9.999px)",
		"(min-width:10.015px)", // 640.96 parts are 640
		"(max-width:11px)", "(min-width:-1px)", "(min-width:-0px)", "(min-width:+10.000px)", "(max-width:010px)", "(min-width:.5px)",
		"(max-width:1000000px)", "(min-width:-1000000px)")
	holdMedia(t, false,
		"(min-width:10.016px)", "(min-width:11px)", "(max-width:9.999px)", "(min-height:5.016px)", "(max-height:4.999px)", "(max-width:-1px)",
		"(min-width:1)", "(min-width:0)", "(min-width:1em)", "(min-width:1%)", "(min-width:px)", "(min-width:'1px')", "(min-width:#1px)",
		"(min-width:1.0000px)", "(min-width:-1000001px)", "(max-width:1000001px)", "(max-width:1000000.001px)", "(min-width:1.2345px)",
		"(width:10px)", "(min-depth:1px)", "(min-width)", "(min-width:)", "(:1px)", "(min-width 1px)", "(min-width:1px", "min-width:1px", "(min-width:1px))", "((min-width:1px))",
		"[min-width:1px]", "{min-width:1px}", "f(min-width:1px)", "(min-width:1 px)", "(min-width:1/**/px)", "(min-width:1px 1px)", "('min-width':1px)", "(min-width(:1px)", "(min-width:1px;)", "(min-width:1px]", "[min-width:1px)", "(min-width=1px)")
}

func TestAnd(t *testing.T) {
	holdMedia(t, true,
		"screen and (min-width:1px)", "all AND (min-width:1px)", "(min-width:1px) and (min-height:1px)", "screen and (min-width:1px) and (min-height:1px) and (max-width:10px)",
		"screen\nand\t( min-width:1px )", "screen /**/and/**/ (min-width:1px)", "screen/**/ and /**/(min-width:1px)")
	holdMedia(t, false,
		"print and (min-width:1px)", "tv and (min-width:1px)", "screen and", "screen and ", "and", "and (min-width:1px)", "(min-width:1px) and", "(min-width:1px) and screen",
		"screen (min-width:1px)", "(min-width:1px) (min-height:1px)", "(min-width:1px)(min-height:1px)", "screen and and (min-width:1px)", "screen and print",
		"(min-width:1px)and (min-height:1px)", "(min-width:1px) and(min-height:1px)", "screen and(min-width:1px)", "screen/**/and (min-width:1px)", "(min-width:1px)/**/and (min-height:1px)", "screen and/**/(min-width:1px)",
		"screen or (min-width:1px)", "screen 'and' (min-width:1px)", "(min-width:1px) and (min-height:6px)", "(min-width:11px) and (min-height:1px)", "screen and (max-width:9px) and (min-width:1px)", "screen and (min-width:1px) and", "screen and (min-width:1px) '\n", "screen and (min-width:1px) x")
}

func TestLists(t *testing.T) {
	holdMedia(t, true, "screen,print", "print,screen", "tv , all", ",all", "all,", "print,,all", "(min-width:11px), (min-height:1px)", "'\n, all", "(,all", "x{,screen", "print and, screen", "(max-width:9px),screen and (max-width:10px)")
	holdMedia(t, false, ",", " , ", ",,", "print,tv", "print,", "screen print, tv", "(screen,all)", "(min-width:1px,)", "(min-width,:1px)", "'all,all'", "screen and (min-width:11px), print")
}

func TestAppliesAtTheEdges(t *testing.T) {
	for _, c := range []struct {
		text          string
		width, height int
		want          bool
	}{
		{"(min-width:0px)", 0, 0, true},
		{"(max-width:0px)", 0, 0, true},
		{"(min-width:0px)", -1, 0, false},
		{"(max-height:0px)", 0, 1, false},
		{"(max-width:-1px)", -64, 0, true},
		{"(max-width:-1px)", -63, 0, false},
		{"(min-width:-.001px)", -1, 0, true},
		{"(min-width:-.001px)", -2, 0, false},
		{"(max-width:-.001px)", 0, 0, false},
		{"(min-width:1000000px)", math.MaxInt, 0, true},
		{"(max-width:1000000px)", math.MaxInt, 0, false},
		{"(min-width:1000000px)", api.MaxLen, 0, true},
		{"(max-width:1000000px)", api.MaxLen, 0, true},
		{"(min-width:262144px)", api.MaxLen - 1, 0, false},
		{"(max-height:-1000000px)", 0, math.MinInt, true},
		{"(min-height:-1000000px)", 0, math.MinInt, false},
		{"(min-width:2px)", 1, 128, false},
		{"(min-height:2px)", 1, 128, true},
		{"", math.MinInt, math.MaxInt, true},
		{"screen", math.MinInt, math.MaxInt, true},
	} {
		if got := Applies(c.text, c.width, c.height); got != c.want {
			t.Errorf("%q of %d, %d: %v", c.text, c.width, c.height, got)
		}
	}
}
