package lines

import (
	"testing"

	"casement/api"
)

// P82: a line stops at the last place where it fits; if there is none, at the first one.
func TestFillStops(t *testing.T) {
	for _, c := range []struct {
		width int
		want  string
		l     []Item
	}{
		{2250, "aa bb|cc", list(run("aa bb cc"))},
		{2249, "aa|bb|cc", list(run("aa bb cc"))},
		{3500, "aa bb cc", list(run("aa bb cc"))},
		{3499, "aa bb|cc", list(run("aa bb cc"))},
		{1000, "aa|bb", list(run("aa bb"))},
		{999, "aa|bb", list(run("aa bb"))},
		{0, "aa|bb", list(run("aa bb"))},
		{-api.MaxLen, "aa|bb", list(run("aa bb"))},
		{500, "a|bbbb|c", list(run("a bbbb c"))},
		{0, "\u200b\u200b", list(run("\u200b"), run("\u200b"))},
		{-1, "\u200b|\u200b", list(run("\u200b"), run("\u200b"))},
		{1100, "a#|b", list(run("a"), atom(600, 1), run("b"))},
		{1099, "a|#|b", list(run("a"), atom(600, 1), run("b"))},
		{1600, "a#b", list(run("a"), atom(600, 1), run("b"))},
		{api.MaxLen, "a|b", list(run("a"), forced(), run("b"))},
		{1250, "a b|c d", list(moded(3, "a b\nc d"))},
		{500, "a|b|c|d", list(moded(3, "a b\nc d"))},
	} {
		if got := words(t, page(c.width), c.l); got != c.want {
			t.Errorf("%d %+v: %q, want %q", c.width, c.l, got, c.want)
		}
	}
}

// P82: blanks at a line's end have no part in its width and are left out, but those of mode 2; edges are not looked at.
func TestFillLeavesBlanksOut(t *testing.T) {
	for _, c := range []struct {
		width int
		want  string
		l     []Item
	}{
		{9000, "0+500: a 0+500", list(run("a "))},
		{9000, "0+500: a 0+500", list(moded(1, "a "))},
		{9000, "0+750: a  0+750", list(moded(2, "a "))},
		{9000, "0+500: a 0+500", list(moded(3, "a  "))},
		{9000, "0+500: a 0+500", list(moded(4, "a "))},
		{9000, "0+500: a 0+500|0+500: b 0+500", list(run("a "), forced(), run("b"))},
		{9000, "0+1000: a   0+1000|0+500: b 0+500", list(moded(2, "a  \nb"))},
		{9000, "0+500: a 0+500|0+500: b 0+500", list(moded(3, "a  \nb"))},
		{9000, "0+750: a 0+500   500+250", list(run("a"), moded(2, " "), moded(3, " "))},
		{9000, "0+0:", list(moded(3, "  "))},
		{9000, "0+30: # 0+30", list(atom(30, 30), run(" "))},
		{9000, "0+750: a\u00a0 0+750", list(run("a\u00a0"))},
		{600, "0+600: a 0+500 > 500+100|0+500: b 0+500", list(run("a "), shut(100), run("b"))},
		{599, "0+600: a 0+500 > 500+100|0+500: b 0+500", list(run("a "), shut(100), run("b"))},
		{9000, "0+600: a 0+500 < 500+70 > 570+30", list(run("a "), open(70), moded(3, " "), shut(30))},
		{9000, "0+1350: a 0+500 < 500+100   600+250 b 850+500", list(run("a"), open(100), run(" "), run("b"))},
		{500, "0+500: a 0+500|0+600: < 0+100 b 100+500", list(run("a "), open(100), run("b"))},
		{1349, "0+500: a 0+500|0+600: < 0+100 b 100+500", list(run("a"), run("  "), open(100), run("b"))},
	} {
		if got := across(t, page(c.width), c.l); got != c.want {
			t.Errorf("%d %+v: %q, want %q", c.width, c.l, got, c.want)
		}
	}
}

// P82: each letter's width is rounded by itself.
func TestFillRounds(t *testing.T) {
	l := list(Item{Kind: api.IRun, Text: "iii", Size: 5, High: -1}, Item{Kind: api.IRun, Text: "iii", Size: -5, High: -1})
	if got := across(t, page(9000), l); got != "0+3: iii 0+3 iii 3+0" {
		t.Error(got)
	}
}

// P82: edges may be less than nothing wide: the last place that fits may stand behind others that do not.
func TestFillBehindWiderStops(t *testing.T) {
	back := list(run("aa bb"), shut(-1500), run(" c"))
	far := list(run("a bb cc dd"), shut(-4000)) // 500, 1750, 3000 and 250 wide
	for _, c := range []struct {
		width int
		want  string
		l     []Item
	}{
		{1500, "aa bb> c", back},
		{1499, "aa bb>|c", back},
		{750, "aa bb>|c", back},
		{749, "aa|bb> c", back},
		{249, "aa|bb>|c", back},
		{-500, "aa|bb>|c", back},
		{1750, "a bb cc dd>", far},
		{400, "a bb cc dd>", far},
		{250, "a bb cc dd>", far},
		{249, "a|bb cc dd>", far},
	} {
		if got := words(t, page(c.width), c.l); got != c.want {
			t.Errorf("%d %+v: %q, want %q", c.width, c.l, got, c.want)
		}
	}
	// A later line may fit where the one ahead did not.
	if got := words(t, page(1000), list(run("aaaa bb cc"), shut(-1250), run(" d"))); got != "aaaa|bb cc>|d" {
		t.Errorf("%q", got)
	}
}

// P82: the first line has Indent less room, however far down it begins.
func TestFillIndents(t *testing.T) {
	for _, c := range []struct {
		p    Para
		want string
	}{
		{Para{Width: 2250, Indent: 1}, "1+1000: aa 1+1000|0+2250: bb cc 0+2250"},
		{Para{Width: 2250, Indent: 0}, "0+2250: aa bb 0+2250|0+1000: cc 0+1000"},
		{Para{Width: 2250, Indent: -1250}, "-1250+3500: aa bb cc -1250+3500"},
		{Para{Width: 10, Indent: 5000}, "5000+1000: aa 5000+1000|0+1000: bb 0+1000|0+1000: cc 0+1000"},
		{Para{Width: 2250, Indent: 1, Holes: []Hole{{0, 100, 1300, 0}}}, "1+1000: aa 1+1000|0+2250: bb cc 0+2250"},
	} {
		c.p.Size, c.p.High = 1000, -1
		if got := across(t, c.p, list(run("aa bb cc"))); got != c.want {
			t.Errorf("%+v: %q, want %q", c.p, got, c.want)
		}
	}
}

// P82: which holes reach into a line: by y and the strut's height, whatever stands in the line.
func TestFillHolesThatReach(t *testing.T) {
	tall := list(Item{Kind: api.IRun, Text: "a b", Size: 1000, High: 5000})
	for _, c := range []struct {
		size, high int
		hole       Hole
		x          int // where the first line begins
	}{
		{1000, -1, Hole{0, 1, 70, 0}, 70},
		{1000, -1, Hole{-9, 1, 70, 0}, 70},
		{1000, -1, Hole{-9, 0, 70, 0}, 0},
		{1000, -1, Hole{1249, 1300, 70, 0}, 70},
		{1000, -1, Hole{1250, 1300, 70, 0}, 0},
		{1000, 400, Hole{399, 1300, 70, 0}, 70},
		{1000, 400, Hole{400, 1300, 70, 0}, 0},
		{1000, 0, Hole{0, 1300, 70, 0}, 70},
		{1000, 0, Hole{1, 1300, 70, 0}, 0},
		{-1000, -1, Hole{0, 1300, 70, 0}, 70},
		{-1000, -1, Hole{1, 1300, 70, 0}, 0},
		{1000, -1, Hole{500, 100, 70, 0}, 70}, // upside down, it reaches by the same words
		{1000, -1, Hole{500, 0, 70, 0}, 0},
	} {
		p := Para{Width: 9000, Size: c.size, High: c.high, Holes: []Hole{c.hole}}
		if got := lay(t, p, tall); got[0].X != c.x || got[0].Y != 0 {
			t.Errorf("%+v: %+v, want x %d", p, got, c.x)
		}
	}
}

// P82: the greatest Left and the greatest Right of the holes that reach in are taken.
func TestFillBesideHoles(t *testing.T) {
	for _, c := range []struct {
		holes []Hole
		want  string
	}{
		{nil, "0+1250: a b 0+1250"},
		{[]Hole{{0, 9, 300, 0}, {0, 9, 100, 0}, {0, 9, 0, 200}, {0, 9, 0, 450}}, "300+1250: a b 300+1250"},
		{[]Hole{{0, 9, 300, 0}, {0, 9, 100, 0}, {0, 9, 0, 200}, {0, 9, 0, 451}}, "300+500: a 300+500|0+500: b 0+500"},
		{[]Hole{{0, 9, 300, 451}, {0, 9, 100, 200}}, "300+500: a 300+500|0+500: b 0+500"},
		{[]Hole{{0, 9, 750, 0}}, "750+1250: a b 750+1250"},
		{[]Hole{{0, 9, 751, 0}}, "751+500: a 751+500|0+500: b 0+500"},
		{[]Hole{{0, 9, 0, 751}}, "0+500: a 0+500|0+500: b 0+500"},
		{[]Hole{{0, 9, -30, -20}, {0, 9, -40, -20}}, "-30+1250: a b -30+1250"},
		{[]Hole{{0, 9, -30, 0}, {0, 9, 0, -20}}, "0+1250: a b 0+1250"},
		{[]Hole{{5000, 9000, 800, 0}, {-5, 0, 800, 0}}, "0+1250: a b 0+1250"},
	} {
		p := page(2000)
		p.Holes = c.holes
		if got := across(t, p, list(run("a b"))); got != c.want {
			t.Errorf("%+v: %q, want %q", c.holes, got, c.want)
		}
	}
}

// P82: holes that take less than nothing leave more room.
func TestFillBesideNegativeHoles(t *testing.T) {
	p := page(1200)
	p.Holes = []Hole{{0, 9, -30, -20}}
	if got := across(t, p, list(run("a b"))); got != "-30+1250: a b -30+1250" {
		t.Errorf("%q", got)
	}
	p.Width--
	if got := across(t, p, list(run("a b"))); got != "-30+500: a -30+500|0+500: b 0+500" {
		t.Errorf("%q", got)
	}
}

// P82: without room beside holes y goes on, from one Bottom to the next, as far as it must.
func TestFillBelowHoles(t *testing.T) {
	for _, c := range []struct {
		width int
		holes []Hole
		want  string
	}{
		{500, []Hole{{0, 100, 1, 0}}, "100+1250 base 1025|1350+1250 base 2275"},
		{500, []Hole{{0, 100, 0, 1}}, "100+1250 base 1025|1350+1250 base 2275"},
		{500, []Hole{{0, 700, 1, 0}, {0, 100, 1, 0}, {0, 300, 0, 0}}, "700+1250 base 1625|1950+1250 base 2875"},
		{600, []Hole{{0, 700, 100, 0}, {0, 300, 101, 0}}, "300+1250 base 1225|1550+1250 base 2475"},
		{500, []Hole{{0, 100, 1, 0}, {1349, 2000, 1, 0}}, "2000+1250 base 2925|3250+1250 base 4175"},
		{500, []Hole{{0, 100, 1, 0}, {1350, 2000, 1, 0}}, "100+1250 base 1025|2000+1250 base 2925"},
		{500, []Hole{{1300, 2000, 1, 0}}, "0+1250 base 925|2000+1250 base 2925"},
		{499, []Hole{{0, 100, 0, 0}}, "100+1250 base 1025|1350+1250 base 2275"}, // beside it nothing is lost, and it is a hole all the same
		{499, []Hole{{0, 100, -1, 0}}, "0+1250 base 925|1250+1250 base 2175"},
		{499, []Hole{{900, 400, 0, 0}}, "400+1250 base 1325|1650+1250 base 2575"},
	} {
		p := page(c.width)
		p.Holes = c.holes
		if got := down(t, p, list(run("a b"))); got != c.want {
			t.Errorf("%+v: %q, want %q", c.holes, got, c.want)
		}
	}
}

// P82: a line without a letter or an atom needs room as well.
func TestFillEmptyLinesBesideHoles(t *testing.T) {
	p := page(500)
	p.Holes = []Hole{{0, 100, 501, 0}}
	if got := down(t, p, list(forced())); got != "100+1250 base 1025" {
		t.Error(got)
	}
	p.Holes[0].Left = 500
	if got := down(t, p, list(forced())); got != "0+1250 base 925" {
		t.Error(got)
	}
}

// P82: when there is no line more.
func TestFillEnds(t *testing.T) {
	for _, c := range []struct {
		want string
		l    []Item
	}{
		{"", nil},
		{"", list(run(""))},
		{"", list(run(" \n "))},
		{"", list(open(0), run("  "), shut(0))},
		{"0+5: < 0+0 > 0+5", list(open(0), shut(5))},
		{"0+0: < 0+5 > 5+-5", list(open(5), shut(-5))},
		{"0+0:", list(forced())},
		{"0+0:|0+0:", list(forced(), forced())},
		{"0+0:", list(moded(2, "\n"))},
		{"0+500: a 0+500", list(run("a"), forced())},
		{"0+500: a 0+500", list(run("a"), forced(), run(" "))},
		{"0+500: a 0+500|0+0:", list(run("a"), forced(), moded(3, " "))},
		{"0+500: a 0+500|0+0:", list(moded(3, "a\n\n"))},
		{"0+500: < 0+0 a 0+500", list(open(0), run("a"), forced(), shut(0))},
		{"0+500: < 0+0 a 0+500|0+3: > 0+3", list(open(0), run("a"), forced(), shut(3))},
		{"0+500: a 0+500 < 500+0|0+0: > 0+0 < 0+0", list(run("a"), open(0), forced(), shut(0), open(0), forced(), shut(0))},
		{"0+0: # 0+0", list(atom(0, 0))},
		{"0+0: \u200b 0+0", list(run("\u200b"))},
	} {
		if got := across(t, page(9000), c.l); got != c.want {
			t.Errorf("%+v: %q, want %q", c.l, got, c.want)
		}
	}
}
