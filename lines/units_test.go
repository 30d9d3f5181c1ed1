package lines

import (
	"testing"

	"casement/api"
)

// signs: units as a text: _ is a blank, / a forced end, < and > are edges, # is an atom.
func signs(units []unit) string {
	s := ""
	for _, u := range units {
		switch {
		case u.blank():
			s += "_"
		case u.kind == api.IRun:
			s += string(u.letter)
		case u.kind == api.IOpen:
			s += "<"
		case u.kind == api.IClose:
			s += ">"
		case u.kind == api.IAtom:
			s += "#"
		case u.kind == api.IBreak:
			s += "/"
		default:
			s += "?"
		}
	}
	return s
}

func wantUnits(t *testing.T, want string, l ...Item) {
	t.Helper()
	if got := signs(unitsOf(l)); got != want {
		t.Errorf("%+v: %q, want %q", l, got, want)
	}
}

// P80: blanks and forced ends of one run, by its mode.
func TestUnitsOfRun(t *testing.T) {
	for _, c := range []struct {
		mode       int
		text, want string
	}{
		{0, "", ""},
		{0, "a b", "a_b"},
		{0, "a\tb\nc\fd\re", "a_b_c_d_e"},
		{0, "a \t\n\f\r b", "a_b"},
		{0, " \n a", "a"},
		{0, "a  ", "a_"},
		{0, "  ", ""},
		{0, "\v \x00 \u00a0 \u2003 ", "\v_\x00_\u00a0_\u2003_"},
		{1, " a \n b\n", "a_b_"},
		{2, " a\t \n\r b\f", "_a__/__b_"},
		{3, " a\t \n\r b\f", "_a__/__b_"},
		{2, "\n\n", "//"},
		{4, " a \t\n\r b  c ", "a/b_c_"},
		{4, "a\n\nb", "a//b"},
		{4, "a \n \n b", "a//b"},
		{4, " \n ", "/"},
		{4, "\n", "/"},
		{4, "a  b\u00a0\nc", "a_b\u00a0/c"},
		{5, " a \n b", "a_b"},
		{-1, " a \n b", "a_b"},
		{api.MaxLen * 2, " a \n b", "a_b"},
	} {
		wantUnits(t, c.want, moded(c.mode, c.text))
	}
}

// P80: bytes that are of no rune are U+FFFD, each by itself.
func TestUnitsOfWrongBytes(t *testing.T) {
	wantUnits(t, "\ufffd_\ufffd\ufffda", run("\xff \xe4\xb8a"))
	wantUnits(t, "\ufffd/\ufffd", moded(2, "\xc3\n\x80"))
	if got := words(t, page(9000), list(run("\xffa\xe4\xb8"))); got != "\ufffda\ufffd\ufffd" {
		t.Errorf("%q", got)
	}
}

// P80: what stands ahead of a blank may be of another item; edges are not looked at.
func TestUnitsOfItems(t *testing.T) {
	for _, c := range []struct {
		want string
		l    []Item
	}{
		{"a_b", list(run("a "), run(" b"))},
		{"a_b", list(run("a"), run(" b"))},
		{"a_b", list(run("a "), run(""), run(" b"))},
		{"a_<b", list(run("a "), open(3), run(" b"))},
		{"a_<><b", list(run("a "), open(0), run(" "), shut(0), open(3), run(" b"))},
		{"a<_b", list(run("a"), open(3), run("  b"))},
		{"<>a", list(open(1), shut(2), run(" a"))},
		{"a_#_b", list(run("a "), atom(1, 1), run(" b"))},
		{"#_", list(atom(1, 1), run(" "))},
		{"#<_", list(atom(1, 1), open(1), run(" "))},
		{"a_/b", list(run("a "), forced(), run(" b"))},
		{"/>a", list(forced(), shut(1), run(" a"))},
		{"a_b", list(run("a "), moded(1, " "), moded(4, " b"))},
		{"a_b", list(moded(4, "a "), run(" b"))},
		{"a__b", list(moded(3, "a "), run(" b"))},
		{"__b", list(moded(2, " "), run("  b"))},
		{"a__b", list(run("a "), moded(3, " b"))},
		{"a___", list(run("a "), moded(2, " "), moded(1, "  "))},
		{"a/b", list(moded(3, "a\n"), run(" b"))},
		{"a/<_b", list(moded(2, "a\n"), open(1), moded(3, " b"))},
	} {
		wantUnits(t, c.want, c.l...)
	}
}

// P80: in mode 4 it is a forced end of the same item that takes the blanks ahead of it away.
func TestUnitsBesideEnds(t *testing.T) {
	wantUnits(t, "a_/b", run("a "), moded(4, "\n b"))
	wantUnits(t, "a_/b", moded(4, "a "), moded(4, " \nb"))
	wantUnits(t, "a_/", moded(4, "a "), forced())
	wantUnits(t, "a_/", moded(3, "a "), moded(4, " \n"))
	wantUnits(t, "a/b", moded(4, "a\n"), moded(4, " b"))
	wantUnits(t, "a__/", moded(3, "a  \n"))
}

// P80: items of another kind are not there.
func TestUnitsOfOtherKinds(t *testing.T) {
	wantUnits(t, "")
	for _, kind := range []int{0, -1, 6, 99, 1 << 40} {
		other := Item{Kind: kind, Text: "x\n", Size: 1000, W: 100, H: 9000, Base: 9000, Mode: 2}
		wantUnits(t, "a_b", run("a "), other, run(" b"))
		l := list(other, run("a"), other, run("b"))
		if got := across(t, page(9000), l); got != "0+1000: a 0+500 b 500+500" {
			t.Errorf("kind %d: %s", kind, got)
		}
		if got := down(t, page(9000), l); got != "0+1250 base 925" {
			t.Errorf("kind %d: %s", kind, got)
		}
		if got := lay(t, page(9000), list(other)); got != nil {
			t.Errorf("kind %d: %+v", kind, got)
		}
	}
}
