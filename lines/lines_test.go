package lines

import (
	"errors"
	"fmt"
	"math"
	"slices"
	"strings"
	"testing"
	"time"

	"casement/api"
)

func wantBound(t *testing.T, what string, p Para, l []Item, want bool) {
	t.Helper()
	out, err := Lay(p, l)
	if got := errors.Is(err, api.ErrBound); got != want || err != nil && !got || err != nil && out != nil {
		t.Errorf("%s: %d lines, %v; want a fault: %v", what, len(out), err, want)
	}
}

// P84: at most MaxItems items and holes, whatever they are.
func TestBoundOfLists(t *testing.T) {
	for _, kind := range []int{api.IRun, api.IOpen, api.IAtom, api.IBreak, 0, 77} {
		l := make([]Item, api.MaxItems+1)
		for n := range l {
			l[n].Kind = kind
		}
		wantBound(t, fmt.Sprint("items of kind ", kind), Para{}, l, true)
		wantBound(t, fmt.Sprint("items of kind ", kind), Para{}, l[:api.MaxItems], false)
	}
	holes := make([]Hole, api.MaxItems+1)
	wantBound(t, "holes", Para{Holes: holes}, nil, true)
	wantBound(t, "holes", Para{Holes: holes[:api.MaxItems]}, list(run("a")), false)
}

// P84: at most MaxText bytes in all texts together, of items of any kind.
func TestBoundOfTexts(t *testing.T) {
	half := strings.Repeat("a", api.MaxText/2)
	wantBound(t, "one text", page(9), list(run(half+half)), false)
	wantBound(t, "one text", page(9), list(run(half+half+"a")), true)
	wantBound(t, "two texts", page(9), list(run(half), run(half)), false)
	wantBound(t, "two texts", page(9), list(run(half), run(half+"a")), true)
	wantBound(t, "bytes, not letters", page(9), list(run(strings.Repeat("\u4e2d", api.MaxText/3+1))), true)
	wantBound(t, "blanks that go", page(9), list(run(half), run(half), run(" ")), true)
	wantBound(t, "other kinds", page(9), list(run(half), Item{Kind: api.IBreak, Text: half}), false)
	wantBound(t, "other kinds", page(9), list(run(half), Item{Kind: api.IBreak, Text: half}, Item{Text: "a"}), true)
}

// allLengths: those of all that is handed over, one by one.
func allLengths(p *Para, it *Item, h *Hole) map[string]*int {
	return map[string]*int{
		"Width": &p.Width, "Indent": &p.Indent, "strut's Size": &p.Size, "strut's High": &p.High,
		"Size": &it.Size, "High": &it.High, "Rise": &it.Rise, "W": &it.W, "H": &it.H, "Base": &it.Base,
		"Top": &h.Top, "Bottom": &h.Bottom, "Left": &h.Left, "Right": &h.Right,
	}
}

// P84: no length is of more than MaxLen in size; it does not matter which kind of item has it.
func TestBoundOfLengths(t *testing.T) {
	for name := range allLengths(&Para{}, &Item{}, &Hole{}) {
		for _, n := range []int{api.MaxLen, -api.MaxLen, api.MaxLen + 1, -api.MaxLen - 1, math.MaxInt, math.MinInt} {
			for kind := 0; kind <= api.IBreak+1; kind++ {
				p, it, h := page(100), Item{Kind: kind, Text: "a b"}, Hole{}
				*allLengths(&p, &it, &h)[name] = n
				p.Holes = []Hole{{}, h}
				what := fmt.Sprint(name, " ", n, " of kind ", kind)
				wantBound(t, what, p, list(run("c"), it), n > api.MaxLen || n < -api.MaxLen)
			}
		}
	}
}

// P84: kinds, modes and aligns are no lengths: any number is one.
func TestBoundNotOfKinds(t *testing.T) {
	for _, n := range []int{api.MaxLen + 1, -api.MaxLen - 1, math.MaxInt, math.MinInt} {
		p := page(500)
		p.Align = n
		l := list(moded(n, "a \n b"), Item{Kind: n, Text: "c"}, Item{Kind: api.IAtom, Mode: n, W: 30})
		if got := across(t, p, l); got != "0+500: a 0+500|0+500: b 0+500|0+30: # 0+30" {
			t.Errorf("%d: %q", n, got)
		}
	}
}

// P1: everything at its bounds, and nothing overflows.
func TestGreatest(t *testing.T) {
	p := Para{Width: -api.MaxLen, Indent: api.MaxLen, Align: 3, Size: api.MaxLen, High: api.MaxLen, Holes: slices.Repeat([]Hole{{-api.MaxLen, api.MaxLen, api.MaxLen, api.MaxLen}}, api.MaxItems)}
	big := Item{Kind: api.IRun, Text: strings.Repeat("m ", api.MaxText/2-1), Size: api.MaxLen, High: api.MaxLen, Rise: api.MaxLen}
	l := append(list(big), slices.Repeat(list(tall(api.MaxLen, api.MaxLen, api.MaxLen)), api.MaxItems-1)...)
	out := lay(t, p, l)
	if len(out) != api.MaxText/2-1+api.MaxItems-1 {
		t.Fatal(len(out))
	}
	wide := api.MaxLen * 4 / 5 // as wide as its ascent is high
	last := out[len(out)-1]
	if first := out[0]; first.Y != api.MaxLen || first.X != api.MaxLen || first.W != wide || first.Base != api.MaxLen+wide+api.MaxLen {
		t.Errorf("%+v", first)
	}
	if last.W != 10 || last.Base-last.Y != 2*api.MaxLen || last.H <= 2*api.MaxLen || last.Y <= api.MaxLen*(api.MaxText/2) {
		t.Errorf("%+v", last)
	}
}

// P1: long texts that end at every place, and at none, are laid in little time.
func TestEndsSoon(t *testing.T) {
	var holes []Hole
	for n := range api.MaxItems {
		holes = append(holes, Hole{n * 1000, n*1000 + 900, n, n})
	}
	started := time.Now()
	for _, c := range []struct {
		text  string
		width int
		many  int
	}{
		{strings.Repeat("a ", api.MaxText/2), 0, api.MaxText / 2},
		{strings.Repeat("a ", api.MaxText/2), api.MaxLen, 1},
		{strings.Repeat("a", api.MaxText), 0, 1},
		{strings.Repeat("\u4e2d", api.MaxText/3), 1, api.MaxText / 3},
		{strings.Repeat("\n", api.MaxText), 0, api.MaxText},
	} {
		p := page(c.width)
		p.Holes = holes
		if got := lay(t, p, list(moded(3, c.text))); len(got) != c.many {
			t.Errorf("%d lines, want %d", len(got), c.many)
		}
	}
	if took := time.Since(started); took > 20*time.Second {
		t.Error(took)
	}
}

// P2, P4: what is handed over is only read, and what is answered is new memory each time.
func TestSharesNothing(t *testing.T) {
	p := page(1300)
	p.Align, p.Holes = 3, []Hole{{0, 100, 20, 10}}
	l := list(open(5), run("a b c"), shut(5), forced(), atom(10, 10), run(" d e f"))
	before := fmt.Sprintf("%+v %+v", p, l)
	first, second := lay(t, p, l), lay(t, p, l)
	want := fmt.Sprintf("%+v", first)
	if after := fmt.Sprintf("%+v %+v", p, l); after != before {
		t.Errorf("%s, want %s", after, before)
	}
	for n := range first {
		frags := first[n].Frags
		for k := range frags {
			frags[k] = Frag{}
		}
		first[n].Frags = append(frags, Frag{Text: "x"})
	}
	l[1].Text, p.Holes[0] = "z", Hole{}
	if got := fmt.Sprintf("%+v", second); got != want {
		t.Errorf("%s, want %s", got, want)
	}
	// What is added to one line's list does not show in another's.
	a := lay(t, page(0), list(run("a b c")))
	_ = append(a[0].Frags, Frag{Text: "x"})
	if a[1].Frags[0].Text != "b" || a[2].Frags[0].Text != "c" {
		t.Errorf("%+v", a)
	}
}
