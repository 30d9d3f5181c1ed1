package ink

import (
	"math"
	"strings"
	"testing"

	"casement/api"
)

// P10: the advance of each kind of rune, and their sum.
func TestWidthOfRunes(t *testing.T) {
	for _, c := range []struct {
		text string
		want int
	}{
		{"", 0},
		{"a", 500},
		{"0", 500},
		{" ", 250},
		{"\u00a0", 250},
		{"i", 300},
		{"|", 300},
		{"m", 800},
		{"%", 800},
		{"W", 800},
		{"A", 650},
		{"Z", 650},
		{"\u00c9", 500},
		{"\u4e2d", 1000},
		{"\uff01", 1000},
		{"\uff61", 500},
		{"\U0001f600", 500},
		{"\u00ad", 0},
		{"\u200b", 0},
		{"\u2060", 0},
		{"e\u0301", 500},
		{"\t\n\x00", 0},
		{"Wil a\u4e2d", 800 + 300 + 300 + 250 + 500 + 1000},
	} {
		if got := Width(1000, c.text); got != c.want {
			t.Errorf("Width(1000, %q) = %d, want %d", c.text, got, c.want)
		}
	}
}

// P10: each byte that is of no rune is one U+FFFD by itself.
func TestWidthOfWrongBytes(t *testing.T) {
	for _, c := range []struct {
		text string
		want int
	}{
		{"\xff", 500},
		{"\xff\xfe\x80", 1500},
		{"\xe4\xb8", 1000},             // a rune that is cut off
		{"\xe4\xb8\xad\xe4", 1500},     // a whole one, and one that is cut off
		{"\xed\xa0\x80", 1500},         // half of a pair
		{"\xc0\x80", 1000},             // a form that is too long
		{"\xf4\x90\x80\x80", 2000},     // above all runes
		{"\ufffd", 500},                // the rune itself
		{"a\xc3", 1000},                // at the end
		{"\xc3\xc3\xa9", 500 + 500},    // ahead of a whole one
		{"\x80\u200b\x80", 500 + 500},  // around one without a width
		{"\xe2\x80\x8b\xe2\x80", 1000}, // behind one without a width
	} {
		if got := Width(1000, c.text); got != c.want {
			t.Errorf("Width(1000, %q) = %d, want %d", c.text, got, c.want)
		}
	}
}

// P10: rounding is down, and of each rune by itself.
func TestWidthRounds(t *testing.T) {
	for _, c := range []struct {
		size int
		text string
		want int
	}{
		{1, "a", 0},
		{1, "aaaa", 0},
		{1, "\u4e2d", 1},
		{2, "aaa", 3},
		{3, "aa", 2},
		{7, "aa", 6},
		{999, "ii", 598},
		{999, "a b", 499 + 249 + 499},
		{1024, "Mi", 819 + 307},
	} {
		if got := Width(c.size, c.text); got != c.want {
			t.Errorf("Width(%d, %q) = %d, want %d", c.size, c.text, got, c.want)
		}
	}
}

// P10: sizes below 0 count as 0, sizes above MaxLen as MaxLen.
func TestWidthBounds(t *testing.T) {
	for _, c := range []struct{ size, want int }{
		{math.MinInt, 0},
		{-1, 0},
		{0, 0},
		{1, 1},
		{api.MaxLen - 1, api.MaxLen - 1},
		{api.MaxLen, api.MaxLen},
		{api.MaxLen + 1, api.MaxLen},
		{math.MaxInt, api.MaxLen},
	} {
		if got := Width(c.size, "\u4e2d"); got != c.want {
			t.Errorf("Width(%d) of a wide rune = %d, want %d", c.size, got, c.want)
		}
	}
	long := strings.Repeat("\u4e2d", api.MaxText)
	if got, want := Width(math.MaxInt, long), api.MaxLen*api.MaxText; got != want {
		t.Errorf("a long text: %d, want %d", got, want)
	}
}

// P10: four fifths, rounded down, and the rest; bounded as widths are.
func TestAscentDescent(t *testing.T) {
	for _, c := range []struct{ size, up, down int }{
		{math.MinInt, 0, 0},
		{-5, 0, 0},
		{-1, 0, 0},
		{0, 0, 0},
		{1, 0, 1},
		{2, 1, 1},
		{4, 3, 1},
		{5, 4, 1},
		{6, 4, 2},
		{9, 7, 2},
		{1000, 800, 200},
		{1024, 819, 205},
		{api.MaxLen, 13421772, 3355444},
		{api.MaxLen + 1, 13421772, 3355444},
		{math.MaxInt, 13421772, 3355444},
	} {
		if up, down := Ascent(c.size), Descent(c.size); up != c.up || down != c.down {
			t.Errorf("size %d: %d and %d, want %d and %d", c.size, up, down, c.up, c.down)
		}
	}
}
