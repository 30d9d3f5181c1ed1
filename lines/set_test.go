package lines

import (
	"fmt"
	"testing"

	"casement/api"
)

// P84: where lines begin.
func TestAligns(t *testing.T) {
	hole := []Hole{{0, 1, 100, 30}}
	for _, c := range []struct {
		align, width, indent int
		holes                []Hole
		want                 string
	}{
		{0, 2001, 0, nil, "0+500: a 0+500|0+300: i 0+300"},
		{1, 2001, 0, nil, "1501+500: a 1501+500|1701+300: i 1701+300"},
		{2, 2001, 0, nil, "750+500: a 750+500|850+300: i 850+300"},
		{3, 2001, 0, nil, "0+500: a 0+500|0+300: i 0+300"},
		{4, 2001, 0, nil, "0+500: a 0+500|0+300: i 0+300"},
		{-1, 2001, 0, nil, "0+500: a 0+500|0+300: i 0+300"},
		{1 << 40, 2001, 0, nil, "0+500: a 0+500|0+300: i 0+300"},
		{0, 2000, 70, nil, "70+500: a 70+500|0+300: i 0+300"},
		{1, 2000, 70, nil, "1500+500: a 1500+500|1700+300: i 1700+300"},
		{2, 2000, 70, nil, "785+500: a 785+500|850+300: i 850+300"},
		{1, 2000, -70, nil, "1500+500: a 1500+500|1700+300: i 1700+300"},
		{2, 2000, -70, nil, "715+500: a 715+500|850+300: i 850+300"},
		{0, 2000, 0, hole, "100+500: a 100+500|0+300: i 0+300"},
		{1, 2000, 0, hole, "1470+500: a 1470+500|1700+300: i 1700+300"},
		{2, 2000, 0, hole, "785+500: a 785+500|850+300: i 850+300"},
		{1, 2000, 70, hole, "1470+500: a 1470+500|1700+300: i 1700+300"},
		{2, 2000, 70, hole, "820+500: a 820+500|850+300: i 850+300"},
		{1, 400, 0, nil, "0+500: a 0+500|100+300: i 100+300"}, // too wide: nothing is free
		{2, 400, 0, nil, "0+500: a 0+500|50+300: i 50+300"},
		{2, -400, 50, nil, "50+500: a 50+500|0+300: i 0+300"},
	} {
		p := Para{Width: c.width, Indent: c.indent, Align: c.align, Size: 1000, High: -1, Holes: c.holes}
		if got := across(t, p, list(run("a"), forced(), run("i"))); got != c.want {
			t.Errorf("%+v: %q, want %q", p, got, c.want)
		}
	}
}

// P84: of lines that are justified each blank is wider, all of them together by what is free.
func TestJustifies(t *testing.T) {
	for _, c := range []struct {
		width int
		want  string
		l     []Item
	}{
		{2100, "0+2100: a a a 0+2100|0+1500: aaa 0+1500", list(run("a a a aaa"))},
		{2000, "0+2000: a a a 0+2000|0+1500: aaa 0+1500", list(run("a a a aaa"))},
		{1300, "0+1300: a b 0+1300|0+500: c 0+500", list(run("a b c"))},
		{1300, "0+1300: a b 0+1300|0+1000: cc 0+1000", list(moded(3, "a b  cc"))},
		{1000, "0+1000:  a 0+1000|0+500: b 0+500", list(moded(3, " a b"))},
		{1400, "0+1400: a b 0+1400|0+500: c 0+500", list(moded(1, "a b"), run(" c"))},
		{1650, "0+1650: a b 0+1650|0+500: c 0+500", list(moded(2, "a b"), run(" c"))},
		{1700, "0+1700: a\u00a0b 0+1250   1250+450 # 1700+0|0+500: c 0+500", list(run("a\u00a0b"), moded(2, " "), atom(0, 0), run("c"))},
		{1300, "0+1300: a 0+500 < 500+10  b 510+770 > 1280+20|0+1000: cc 0+1000", list(run("a"), open(10), run(" b"), shut(20), run(" cc"))},
	} {
		if got := across(t, Para{Width: c.width, Align: 3, Size: 1000, High: -1}, c.l); got != c.want {
			t.Errorf("%d %+v: %q, want %q", c.width, c.l, got, c.want)
		}
	}
}

// P84: lines that end at a forced end or with the last unit are not justified, nor those without blanks or without room.
func TestJustifiesNot(t *testing.T) {
	for _, c := range []struct {
		width int
		want  string
		l     []Item
	}{
		{1300, "0+1250: a b 0+1250", list(run("a b"))},
		{1300, "0+1250: a b 0+1250 > 1250+0", list(run("a b"), shut(0))},
		{1300, "0+1250: a b 0+1250|0+500: c 0+500", list(run("a b"), forced(), run("c"))},
		{1300, "0+1250: a b 0+1250|0+1250: c d 0+1250", list(moded(3, "a b\nc d"))},
		{1300, "0+500: a 0+500|0+1500: aaa 0+1500", list(run("a aaa"))},
		{1700, "0+1250: a\u00a0b 0+1250|0+500: c 0+500", list(run("a\u00a0b c"))},
		{900, "0+500: a 0+500|0+600: # 0+600", list(run("a"), atom(600, 1))},
		{100, "0+1250: a b 0+1250|0+500: c 0+500", list(moded(1, "a b"), run(" c"))},
	} {
		if got := across(t, Para{Width: c.width, Align: 3, Size: 1000, High: -1}, c.l); got != c.want {
			t.Errorf("%d %+v: %q, want %q", c.width, c.l, got, c.want)
		}
	}
}

// P84: three blanks share 100 as 33, 33 and 34; four share 7 as 1, 2, 2, 2.
func TestJustifiesByShares(t *testing.T) {
	a, blank := run("a"), run(" ")
	got := across(t, Para{Width: 2850, Align: 3, Size: 1000, High: -1}, list(a, blank, a, blank, a, blank, a, blank, run("bbbb")))
	if got != "0+2850: a 0+500   500+283 a 783+500   1283+283 a 1566+500   2066+284 a 2350+500|0+2000: bbbb 0+2000" {
		t.Errorf("%q", got)
	}
	got = across(t, Para{Width: 3507, Align: 3, Size: 1000, High: -1}, list(a, blank, a, blank, a, blank, a, blank, a, blank, run("bbbb")))
	if got != "0+3507: a 0+500   500+251 a 751+500   1251+252 a 1503+500   2003+252 a 2255+500   2755+252 a 3007+500|0+2000: bbbb 0+2000" {
		t.Errorf("%q", got)
	}
}

// P84: what is free is told of the room that holes and Indent leave.
func TestJustifiesBesideHoles(t *testing.T) {
	p := Para{Width: 1500, Indent: 100, Align: 3, Size: 1000, High: -1, Holes: []Hole{{0, 1, 50, 20}}}
	if got := across(t, p, list(run("a b c"))); got != "150+1330: a b 150+1330|0+500: c 0+500" {
		t.Errorf("%q", got)
	}
}

// P84: where fragments stand, of which item, and how high they are.
func TestFrags(t *testing.T) {
	l := list(sized(1000, -1, 70, "ab"), Item{Kind: 9}, Item{Kind: api.IOpen, W: 5, H: 70, Base: 20, Rise: 30, Text: "x"}, tall(300, 100, -50), shut(-3), forced(), sized(7, 900, -2, "c"), sized(-5, -1, 0, "d "))
	want := []Line{
		{Y: 0, H: 1320, Base: 995, X: 0, W: 1012, Frags: []Frag{
			{Item: 0, Text: "ab", X: 0, Y: 125, W: 1000, H: 1000},
			{Item: 2, X: 1000, Y: 995, W: 5},
			{Item: 3, X: 1005, Y: 945, W: 10, H: 300},
			{Item: 4, X: 1015, Y: 995, W: -3},
		}},
		{Y: 1320, H: 1376, Base: 2245, X: 0, W: 3, Frags: []Frag{
			{Item: 6, Text: "c", X: 0, Y: 2242, W: 3, H: 7},
			{Item: 7, Text: "d", X: 3, Y: 2245, W: 0, H: 0},
		}},
	}
	if got := lay(t, page(9000), l); fmt.Sprintf("%+v", got) != fmt.Sprintf("%+v", want) {
		t.Errorf("%+v, want %+v", got, want)
	}
}

// P84: letters of one item in one line are one fragment, whatever went between them; in two lines they are two.
func TestFragsOfOneItem(t *testing.T) {
	for _, c := range []struct {
		width int
		want  []string
		l     []Item
	}{
		{9000, []string{"0:a b\u00a0c"}, list(run(" a\t\n b\u00a0c "))},
		{9000, []string{"0:a", "1:b"}, list(run("a"), run("b"))},
		{0, []string{"0:a", "0:b"}, list(run("a b"))},
		{9000, []string{"0:a", "0:b"}, list(moded(4, "a \n b"))},
		{9000, []string{"0:a", "2:\ufffd"}, list(run("a"), run(""), run("\xff"))},
		{9000, []string{"0:a", "1:", "2: "}, list(run("a"), open(0), moded(2, "\t"))},
	} {
		var got []string
		for _, line := range lay(t, page(c.width), c.l) {
			for _, f := range line.Frags {
				got = append(got, fmt.Sprint(f.Item, ":", f.Text))
			}
		}
		if fmt.Sprintf("%q", got) != fmt.Sprintf("%q", c.want) {
			t.Errorf("%+v: %q, want %q", c.l, got, c.want)
		}
	}
}
