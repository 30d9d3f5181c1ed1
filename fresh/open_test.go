package fresh

import (
	"errors"
	"math"
	"strings"
	"testing"

	"casement/api"
)

// tooMany rules, the first of which that is one too many stands at MaxRules*3+ahead.
func tooMany(ahead int) string {
	return strings.Repeat(" ", ahead) + strings.Repeat("a{}", api.MaxRules+1)
}

// P160: errors are those of Read: of the markup, then of the base, then of the other sheets.
func TestOpenErrors(t *testing.T) {
	const first = api.MaxRules * 3
	longText := strings.Repeat("x", api.MaxText+1)
	manyNodes := strings.Repeat("<br>", api.MaxNodes)
	for _, c := range []struct {
		text, base string
		sheets     []string
		at         int
	}{
		{longText, tooMany(1), []string{tooMany(2)}, api.MaxText},
		{manyNodes, tooMany(1), nil, (api.MaxNodes - 1) * 4},
		{"<p>", tooMany(1), []string{tooMany(2)}, first + 1},
		{"<p>", "", []string{tooMany(2)}, first + 2},
		{"<p>", "", []string{"a{}", tooMany(3), tooMany(2)}, first + 3},
		{"<p>", "", []string{"", "", longText, tooMany(2)}, api.MaxText},
		{"<p>", longText, nil, api.MaxText},
	} {
		p, err := Open(c.text, c.base, c.sheets, 10, 10)
		var f *api.Fault
		if p != nil || !errors.As(err, &f) || f.At != c.at || !errors.Is(err, api.ErrBound) {
			t.Errorf("%.10q, %.10q: %v, want a fault at %d", c.text, c.base, err, c.at)
		}
	}
	for _, c := range []struct{ text, base, sheet string }{{"", "", ""}, {"<", "{", "}"}, {strings.Repeat("x", api.MaxText), tooMany(0)[3:], "a{"}} {
		if p, err := Open(c.text, c.base, []string{c.sheet}, 10, 10); p == nil || err != nil {
			t.Errorf("%.10q, %.10q: %v", c.text, c.base, err)
		}
	}
}

// P160: a page is 0 to 4096 pixels wide and high; other sizes are the nearer bound.
func TestSizes(t *testing.T) {
	const rules = "div{height:100%}p{position:absolute;top:0;left:0;width:100%;height:100%}"
	for _, c := range []struct {
		width, height int
		want          string
	}{
		{0, 0, "1:0,0,0,0 2:0,0,0,0"},
		{1, 2, "1:0,0,1,2 2:0,0,1,2"},
		{4095, 4096, "1:0,0,4095,4096 2:0,0,4095,4096"},
		{4097, 4095, "1:0,0,4096,4095 2:0,0,4096,4095"},
		{-1, 4097, "1:0,0,0,4096 2:0,0,0,4096"},
		{math.MaxInt, math.MinInt, "1:0,0,4096,0 2:0,0,4096,0"},
		{math.MinInt, math.MaxInt, "1:0,0,0,4096 2:0,0,0,4096"},
	} {
		p, err := Open("<div><p>", base, []string{rules}, c.width, c.height)
		do(t, err)
		holdPlaces(t, p, c.want)
		p = open(t, "<div><p>", rules)
		p.Resize(c.width, c.height)
		holdPlaces(t, p, c.want)
	}
}

// P160: media texts are asked of the size as it counts.
func TestMedia(t *testing.T) {
	p := open(t, "<p>", "@media (min-width:4096px){p{background:red}}@media (max-height:0px){p{height:7px}}")
	for _, c := range []struct {
		width, height, color int
		want                 string
	}{
		{5000, 1, 0xff0000, "1:0,0,4096,0"},
		{4095, -3, -1, "1:0,0,4095,7"},
		{4096, 0, 0xff0000, "1:0,0,4096,7"},
		{4095, 1, -1, "1:0,0,4095,0"},
	} {
		p.Resize(c.width, c.height)
		if got := colorOf(p, 1); got != c.color {
			t.Errorf("%d, %d: %x, want %x", c.width, c.height, got, c.color)
		}
		holdPlaces(t, p, c.want)
	}
}

// P160: the root is the first element among the document's kids.
func TestRoot(t *testing.T) {
	p := open(t, "a<!--b--><p>c</p><div>d</div>", "*{background:red}") // 1: a, 2: b, 3: p, 4: c, 5: div, 6: d
	holdPlaces(t, p, "1:none 2:none 3:0,0,100,10 4:0,0,5,10 5:none 6:none")
	holdReds(t, p, 3)
	do(t, p.Put(0, 5, 2))
	holdPlaces(t, p, "3:none 4:none 5:0,0,100,10 6:0,0,5,10")
	holdReds(t, p, 5)
	do(t, p.Take(5))
	holdPlaces(t, p, "3:0,0,100,10 5:none")
	do(t, p.Put(3, 5, 0))
	holdPlaces(t, p, "3:0,0,100,20 5:0,0,100,10 4:0,10,5,10")
	holdReds(t, p, 3, 5)
}

// P160, P161: without a root there are no frames, and no styles.
func TestNoRoot(t *testing.T) {
	for _, text := range []string{"", "a", "<!--a-->b", "</p>"} {
		p := open(t, text, "*{background:red}")
		for range 2 {
			if f := p.Frame(); f != nil {
				t.Errorf("%s: %v", text, f)
			}
			if got := p.At(0, 0); got != -1 {
				t.Errorf("%s: %d", text, got)
			}
			if got := p.Point(0, 0); got != -1 {
				t.Errorf("%s: %d", text, got)
			}
			holdReds(t, p)
			holdPlaces(t, p, "0:none 1:none")
			if l := p.Picture(); len(l) != 64 || len(l[0]) != 64 || l[0][0] != -1 || l[63][63] != -1 {
				t.Errorf("%s: %v", text, l)
			}
			holdWorked(t, p, text, 0, 0)
		}
	}
	p := open(t, "")
	id := made(t)(p.Element("p"))
	do(t, p.Set(id, "style", "height:3px"), p.Put(0, id, 0))
	holdPlaces(t, p, "1:0,0,100,3")
	p.Undo()
	holdPlaces(t, p, "1:none")
}

// P160: a root that makes no box has no frames.
func TestRootWithoutBox(t *testing.T) {
	p := open(t, "<br>")
	if f := p.Frame(); f != nil || colorOf(p, 1) != -1 {
		t.Error(f)
	}
	p = open(t, "<p>a</p>", "p{display:none}")
	if f := p.Frame(); f != nil || colorOf(p, 1) != -1 || p.At(0, 0) != -1 {
		t.Error(f)
	}
}

// P160: at first nothing is hovered or has the focus.
func TestNoState(t *testing.T) {
	holdReds(t, open(t, "<div><a href=x tabindex=1>a</a></div>", ":hover,:focus{background:red}"))
}

// P4: the list of sheets is not kept.
func TestSheetsAreRead(t *testing.T) {
	l := []string{"p{background:red}", ""}
	p := open(t, "<p>", l...)
	l[0], l[1] = "", "p{background:blue}"
	holdReds(t, p, 1)
}
