package lines

import (
	"testing"

	"casement/api"
)

// sized: letters of a size, in lines that are so high.
func sized(size, high, rise int, text string) Item {
	return Item{Kind: api.IRun, Text: text, Size: size, High: high, Rise: rise}
}

func tall(h, base, rise int) Item {
	return Item{Kind: api.IAtom, W: 10, H: h, Base: base, Rise: rise}
}

// P83: how far letters and atoms stand above and below; rounding is down, also of what is below 0.
func TestSpans(t *testing.T) {
	for _, c := range []struct {
		it           Item
		above, below int
	}{
		{sized(1000, -1, 0, "a"), 925, 325},
		{sized(1000, -900, 0, "a"), 925, 325},
		{sized(1000, 1250, 0, "a"), 925, 325},
		{sized(1000, 1000, 0, "a"), 800, 200},
		{sized(1000, 1001, 0, "a"), 800, 201},
		{sized(1000, 999, 0, "a"), 799, 200},
		{sized(1000, 0, 0, "a"), 300, -300},
		{sized(1000, 3, 0, "a"), 301, -298},
		{sized(1000, -1, 70, "a"), 995, 255},
		{sized(1000, -1, -2000, "a"), -1075, 2325},
		{sized(7, -1, 0, "a"), 5, 3}, // 8 high: 5 above and 2 below, and 1 more
		{sized(3, -1, 0, "a"), 2, 1},
		{sized(0, -1, 0, "a"), 0, 0},
		{sized(0, 5, 0, "a"), 2, 3},
		{sized(-1000, -1, 0, "a"), -625, -625},
		{sized(-1, -1, 0, "a"), -1, -1}, // 5 over 4, below 0, is -2
		{sized(-1000, 10, 0, "a"), 5, 5},
		{tall(300, 100, 0), 100, 200},
		{tall(300, 100, 70), 170, 130},
		{tall(300, 400, -50), 350, -50},
		{tall(-300, 0, 0), 0, -300},
	} {
		if got := spanOf(c.it); got != (span{c.above, c.below}) {
			t.Errorf("%+v: %+v, want %d, %d", c.it, got, c.above, c.below)
		}
	}
}

// P83: a line's base and height, by the strut and all that stands in it.
func TestHeightsOfLines(t *testing.T) {
	for _, c := range []struct {
		want string
		l    []Item
	}{
		{"0+1250 base 925", list(run("a"))},
		{"0+1250 base 925", list(sized(100, -1, 0, "a"))},
		{"0+2500 base 1850", list(sized(2000, -1, 0, "a"))},
		{"0+2500 base 1850", list(run("a"), sized(2000, -1, 0, "b"), run("c"))},
		{"0+1320 base 995", list(sized(1000, -1, 70, "a"))},
		{"0+1320 base 925", list(sized(1000, -1, -70, "a"))},
		{"0+1390 base 995", list(sized(1000, -1, -70, "a"), sized(1000, -1, 70, "a"))},
		{"0+1250 base 925", list(sized(1000, 0, 0, "a"))},
		{"0+2325 base 2000", list(tall(2000, 2000, 0))},
		{"0+2925 base 925", list(tall(2000, 0, 0))},
		{"0+1250 base 925", list(tall(5, 5, 0), open(900), shut(900))},
		{"0+3325 base 3000", list(tall(0, 0, 3000))},
		{"0+1250 base 925", list(Item{Kind: api.IOpen, W: 5, H: 9000, Base: 9000, Size: 9000, High: 9000, Rise: 9000})},
		{"0+1250 base 925", list(Item{Kind: api.IBreak, W: 5, H: 9000, Base: 9000, Size: 9000, High: 9000, Rise: 9000})},
	} {
		if got := down(t, page(9000), c.l); got != c.want {
			t.Errorf("%+v: %q, want %q", c.l, got, c.want)
		}
	}
}

// P83: letters that are left out say nothing, nor do those that are none.
func TestHeightsWithoutBlanks(t *testing.T) {
	big := func(mode int, text string) Item {
		it := sized(2000, -1, 0, text)
		it.Mode = mode
		return it
	}
	for _, c := range []struct {
		want string
		l    []Item
	}{
		{"0+1250 base 925", list(run("a"), big(0, " "))},
		{"0+1250 base 925", list(run("a"), big(3, "  "), shut(5))},
		{"0+2500 base 1850", list(run("a"), big(2, " "))},
		{"0+2500 base 1850", list(run("a"), big(0, " "), run("b"))},
		{"0+1250 base 925", list(run("a "), big(0, " "), run("b"))},
		{"0+1250 base 925", list(run("a"), big(2, "\n"))},
		{"0+1250 base 925", list(run("a"), big(0, ""))},
		{"0+1250 base 925", list(big(3, " "))},
		{"0+1250 base 925|1250+2500 base 3100", list(run("a"), big(3, " \n\u00a0"))},
	} {
		if got := down(t, page(9000), c.l); got != c.want {
			t.Errorf("%+v: %q, want %q", c.l, got, c.want)
		}
	}
}

// P83: the strut, in every line; the next line begins where the one ahead ends.
func TestHeightsOfStrut(t *testing.T) {
	l := list(sized(100, -1, 0, "a"), forced(), sized(100, 300, 0, "b"), forced(), tall(50, 50, 0))
	for _, c := range []struct {
		size, high int
		want       string
	}{
		{1000, -1, "0+1250 base 925|1250+1250 base 2175|2500+1250 base 3425"},
		{1000, 2000, "0+2000 base 1300|2000+2000 base 3300|4000+2000 base 5300"},
		{0, 0, "0+125 base 92|125+300 base 305|425+50 base 475"},
		{0, -1, "0+125 base 92|125+300 base 305|425+50 base 475"},
		{100, 0, "0+125 base 92|125+300 base 305|425+50 base 475"}, // 30 above and -30 below
		{-100, -1, "0+125 base 92|125+300 base 305|425+50 base 475"},
	} {
		p := Para{Width: 9000, Size: c.size, High: c.high}
		if got := down(t, p, l); got != c.want {
			t.Errorf("%+v: %q, want %q", p, got, c.want)
		}
	}
}

// P83: no line is less than nothing high, though its base may lie above it.
func TestHeightsBelowNothing(t *testing.T) {
	p := Para{Width: 9000, Size: -1000, High: -1}
	if got := down(t, p, list(forced(), forced())); got != "0+0 base -625|0+0 base -625" {
		t.Error(got)
	}
	if got := down(t, p, list(tall(-300, -100, 0), forced(), forced())); got != "0+0 base -100|0+0 base -625" {
		t.Error(got)
	}
	if got := down(t, Para{Width: 9000, Size: 1000, High: 0}, list(forced(), forced())); got != "0+0 base 300|0+0 base 300" {
		t.Error(got)
	}
}
