package lines

import (
	"testing"
)

type endCase struct {
	want string
	l    []Item
}

// wantEnds: nothing fits, so that lines end wherever they may.
func wantEnds(t *testing.T, cases []endCase) {
	t.Helper()
	for _, c := range cases {
		if got := words(t, page(-1), c.l); got != c.want {
			t.Errorf("%+v: %q, want %q", c.l, got, c.want)
		}
	}
}

// P81: where the text says so, over the bounds of items.
func TestEndsOfText(t *testing.T) {
	wantEnds(t, []endCase{
		{"ab|cd", list(run("ab cd"))},
		{"ab|cd", list(run("a"), run("b"), run(" "), run("c"), run("d"))},
		{"a-|b", list(run("a-b"))},
		{"a-|b", list(run("a"), run("-"), run("b"))},
		{"-b", list(run("-b"))},
		{"1-|b-1", list(run("1-b-1"))},
		{"a\u200b|b\u00ad|c", list(run("a\u200bb\u00adc"))},
		{"\u4e2d|\u6587\u3002", list(run("\u4e2d\u6587\u3002"))},
		{"\u4e2d|\u6587", list(run("\u4e2d"), run("\u6587"))},
		{"\u300c\u4e2d", list(run("\u300c"), run("\u4e2d"))},
		{"a\u00a0b", list(run("a\u00a0b"))},
		{"a\u00a0|b", list(run("a\u00a0 b"))},
		{"a \u2060b", list(run("a \u2060b"))},
		{"a\ufffcb", list(run("a\ufffcb"))},
		{"a|b", list(moded(3, "a   b"))},
		{"|a", list(moded(3, "  a"))},
		{"a|b", list(moded(4, "a  b"))},
	})
}

// P81: the text ends at forced ends.
func TestEndsBesideForced(t *testing.T) {
	wantEnds(t, []endCase{
		{"a-|b", list(run("a-"), forced(), run("b"))},
		{"a|-b", list(moded(3, "a\n-b"))},
		{"\u4e2d|\u6587", list(moded(3, "\u4e2d\n\u6587"))},
		{"\u4e2d\u200b||\u6587", list(moded(3, "\u4e2d\u200b\n\n\u6587"))},
		{"#|#", list(atom(1, 1), forced(), atom(1, 1))},
	})
}

// P81: ahead of and behind atoms, but where a letter holds on to them. An atom's own mode says nothing.
func TestEndsOfAtoms(t *testing.T) {
	a := atom(10, 10)
	whole := a
	whole.Mode = 1
	wantEnds(t, []endCase{
		{"a|#|b", list(run("a"), a, run("b"))},
		{"#|#|#", list(a, a, a)},
		{"a|#||b", list(run("a "), a, run(" b"))},
		{"a\u00a0#|b", list(run("a\u00a0"), a, run("b"))},
		{"a|#\u00a0b", list(run("a"), a, run("\u00a0b"))},
		{"a\u2060#\u2060b", list(run("a\u2060"), a, run("\u2060b"))},
		{"a\u00a0<#", list(run("a\u00a0"), open(0), a)},
		{"#|-b", list(a, run("-b"))},
		{"a-|#", list(run("a-"), a)},
		{"\u300c|#|\u3002", list(run("\u300c"), a, run("\u3002"))},
		{"#||#", list(a, run(" "), a)},
		{"#|#", list(whole, whole)},
		{"a|#|b", list(run("a"), whole, run("b"))},
	})
}

// P81: never behind letters of the modes 1 and 2, nor between an atom and these.
func TestEndsOfModes(t *testing.T) {
	a := atom(10, 10)
	for _, mode := range []int{1, 2} {
		wantEnds(t, []endCase{
			{"a b-c\u200bd\u4e2d\u6587", list(moded(mode, "a b-c\u200bd\u4e2d\u6587"))},
			{"a b", list(moded(mode, "a "), run("b"))},
			{"a|b c", list(run("a "), moded(mode, "b c"))},
			{"a-|b", list(run("a-"), moded(mode, "b"))},
			{"a-b", list(moded(mode, "a-"), run("b"))},
			{"a#|b", list(moded(mode, "a"), a, run("b"))},
			{"a|#b", list(run("a"), a, moded(mode, "b"))},
			{"a#b", list(moded(mode, "a"), a, moded(mode, "b"))},
			{"a #b", list(moded(mode, "a "), a, moded(mode, "b"))},
			{"a|#b", list(run("a "), a, moded(mode, "b"))},
			{"a>#<b", list(moded(mode, "a"), shut(0), a, open(0), moded(mode, "b"))},
			{"#|#", list(a, a)},
			{"# b", list(a, moded(mode, " b"))},
		})
	}
	for _, mode := range []int{0, 3, 4, 9} {
		wantEnds(t, []endCase{{"a|b-|c|#|d", list(moded(mode, "a b-c"), a, moded(mode, "d"))}})
	}
}

// P81: edges from the first IOpen on are in the next line.
func TestEndsOfEdges(t *testing.T) {
	a := atom(10, 10)
	wantEnds(t, []endCase{
		{"a>>|<>b", list(run("a "), shut(1), shut(2), open(3), shut(4), run("b"))},
		{"a|<>b", list(run("a "), open(1), shut(1), run("b"))},
		{"a|<<b", list(run("a "), open(1), open(2), run("b"))},
		{"a>|<><b", list(run("a "), shut(1), open(1), shut(1), open(2), run("b"))},
		{"a>|b", list(run("a "), shut(1), run("b"))},
		{"a>|<#>|<#>", list(run("a"), shut(1), open(1), a, shut(1), open(2), a, shut(2))},
		{"<a|b>", list(open(1), run("a b"), shut(1))},
		{"<>a<>b<>", list(open(1), shut(1), run("a"), open(1), shut(1), run("b"), open(1), shut(1))},
		{"a<|>b", list(run("a"), open(1), forced(), shut(1), run("b"))},
		{"a->|<b", list(run("a-"), shut(0), open(0), run("b"))},
	})
}
