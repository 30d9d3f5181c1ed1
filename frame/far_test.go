package frame

import (
	"math/rand"
	"strings"
	"testing"

	"casement/api"
	"casement/markup"
)

// farPage: a page so many pixels wide, on which things lie further out than a length reaches.
type farPage struct {
	wide int
	pageOf
}

func holdFar(t *testing.T, pages []farPage) {
	t.Helper()
	for _, p := range pages {
		if got := shown(Lay(made(t, p.text, p.rules), p.wide*api.Unit, 100*api.Unit)); got != p.want {
			t.Errorf("%s with %s:\n%s, want\n%s", p.text, p.rules, got, p.want)
		}
	}
}

// P120, 3: where no float is, a strand does not go down, however far out it lies.
func TestStrandFarAlone(t *testing.T) {
	holdFar(t, []farPage{
		{100, pageOf{`<div><h></h><h></h></div>`, `h{margin-top:-200000px}`,
			`B1:0,0,100,0(B2:0,-200000,100,0 B3:0,-400000,100,0)`}},
		{100, pageOf{`<div><f></f><g></g></div>`, `f,g{margin-top:-200000px}`,
			`B1:0,0,100,0(F2:0,-200000,100,0 G3:0,-400000,100,0)`}},
		{100, pageOf{`<div><h></h><h></h></div>`, `h{margin-top:200000px;height:1px}`,
			`B1:0,0,100,400002(B2:0,200000,100,1 B3:0,400001,100,1)`}},
		{100, pageOf{`<div><h></h></div>`, `div{margin-left:-262144px}`,
			`B1:-262144,0,262244,0(B2:-262144,0,262144,0)`}},
	})
}

// P120, 3 and P91: the room that a strand is held against is In's, so L is at most MaxLen in size: a strand in a room that begins further out stands as far from there as L does.
func TestStrandFarBeside(t *testing.T) {
	const deep = `<div><p><s><h></h></s></p></div>`
	holdFar(t, []farPage{
		{100, pageOf{deep, `s{display:block}p,s{margin-left:200000px}`,
			`B1:0,0,100,0(B2:200000,0,0,0(B3:400000,0,0,0(B4:262144,0,0,0)))`}},
		{100, pageOf{deep, `s{display:block}p,s{margin-left:-200000px;width:50px}`,
			`B1:0,0,100,0(B2:-200000,0,50,0(B3:-400000,0,50,0(B4:-262144,0,50,0)))`}},
		{100, pageOf{deep, `s{display:block}p,s{padding-left:200000px}h{margin-left:5px;width:7px}`,
			`B1:0,0,100,0(B2:0,0,200000,0(B3:200000,0,200000,0(B4:262149,0,7,0)))`}},
		{100, pageOf{deep, `s{display:block}p,s{margin-left:131072px}`,
			`B1:0,0,100,0(B2:131072,0,0,0(B3:262144,0,0,0(B4:262144,0,0,0)))`}},
	})
}

// P120, 3: a strand stands beside a float, or below it, also where that ends further down than a length reaches.
func TestStrandFarDown(t *testing.T) {
	const tall = `b{width:20px;height:262144px}p{height:10px}`
	holdFar(t, []farPage{
		{20, pageOf{`<div><p></p><b></b><h></h></div>`, tall + `b{float:left}`,
			`B1:0,0,20,262154(B2:0,0,20,10 B3:0,10,20,262144 B4:0,262154,20,0)`}},
		{20, pageOf{`<div><p></p><b></b><h></h></div>`, tall + `b{float:right}`,
			`B1:0,0,20,262154(B2:0,0,20,10 B3:0,10,20,262144 B4:0,262154,20,0)`}},
		{30, pageOf{`<div><p></p><b></b><h></h></div>`, tall + `b{float:left}h{clear:left}`,
			`B1:0,0,30,262154(B2:0,0,30,10 B3:0,10,20,262144 B4:0,262154,30,0)`}},
	})
	for _, c := range [][2]string{
		{`b{float:left}h{width:10px}`, `B3:0,10,20,262144 B4:0,10,30,262140 B5:20,262150,10,1)`},
		{`b{float:left}h{width:11px}`, `B3:0,10,20,262144 B4:0,10,30,262140 B5:0,262154,11,1)`},
		{`b{float:right}h{width:10px}`, `B3:10,10,20,262144 B4:0,10,30,262140 B5:0,262150,10,1)`},
		{`b{float:right}h{width:11px}`, `B3:10,10,20,262144 B4:0,10,30,262140 B5:0,262154,11,1)`},
		{`b{float:left}h{width:10px;margin-right:1px}`, `B3:0,10,20,262144 B4:0,10,30,262140 B5:0,262154,10,1)`},
	} {
		got := shown(Lay(made(t, `<div><p></p><b></b><i></i><h></h></div>`, tall+`i{display:block;height:262140px}h{height:1px}`+c[0]), 30*api.Unit, 100*api.Unit))
		if !strings.HasSuffix(got, c[1]) {
			t.Errorf("%s:\n%s, want\n%s", c[0], got, c[1])
		}
	}
}

// P120, 3: a strand has room beside a float, or none, also where it or its room is wider than a length.
func TestStrandFarWide(t *testing.T) {
	holdFar(t, []farPage{
		{262144, pageOf{`<div><b></b><h></h></div>`, `b{float:left}h{width:262144px;padding-left:10px}`,
			`B1:0,0,262144,0+1(B2:0,0,0,0 B3:0,0+1,262154,0)`}},
		{262144, pageOf{`<div><b></b><h></h></div>`, `b{float:right}h{width:262144px;margin-left:10px}`,
			`B1:0,0,262144,0+1(B2:262144,0,0,0 B3:10,0+1,262144,0)`}},
		{262144, pageOf{`<div><b></b><h></h></div>`, `b{float:left}h{width:262144px;margin-right:10px}`,
			`B1:0,0,262144,0+1(B2:0,0,0,0 B3:0,0+1,262144,0)`}},
		{262144, pageOf{`<div><b></b><h></h></div>`, `b{float:left}h{width:262144px;margin:0 -10px 0 10px}`,
			`B1:0,0,262144,0(B2:0,0,0,0 B3:10,0,262144,0)`}},
		{262144, pageOf{`<div><b></b><h></h></div>`, `b{float:left;height:7px}h{width:262144px;padding-left:10px}`,
			`B1:0,0,262144,7(B2:0,0,0,7 B3:0,7,262154,0)`}},
		// A room of 262244 pixels, which In tells as one of 262144; a float takes 2 of them.
		{100, pageOf{`<div><b></b><h></h></div>`, `div{margin-right:-262144px}b{float:left;width:2px;height:10px}`,
			`B1:0,0,262244,10(B2:0,0,2,10 B3:0,10,262144,0)`}},
		{100, pageOf{`<div><b></b><h></h></div>`, `div{margin-right:-262144px}b{float:left;width:2px;height:10px}h{width:262142px}`,
			`B1:0,0,262244,10(B2:0,0,2,10 B3:2,0,262142,0)`}},
		{100, pageOf{`<div><b></b><h></h></div>`, `div{margin-right:-262144px}b{float:left;width:2px;height:10px}h{width:262143px}`,
			`B1:0,0,262244,10(B2:0,0,2,10 B3:0,10,262143,0)`}},
		{100, pageOf{`<div><b></b><h></h></div>`, `div{margin-right:-262144px}b{float:right;width:2px;height:10px}h{width:262143px}`,
			`B1:0,0,262244,10(B2:262142,0,2,10 B3:0,10,262143,0)`}},
	})
}

// far: a page made by chance, with lengths as great as they can be.
func (c chance) far(t *testing.T, most int) {
	t.Helper()
	great := strings.NewReplacer("12px", "262144px", "7.3px", "-200000px", "3px", "200000px", "10%", "1000000%", "1em", "-262144px", "30px", "100000px", "17.7px", "262144px", "60px", "200000px")
	d := c.tree(most)
	for _, id := range d.Under(0) {
		if text, ok := d.Attr(id, "style"); ok && c.Intn(2) == 0 {
			d.Set(id, "style", great.Replace(text))
		}
	}
	b := boxOf(t, d, "")
	if b == nil {
		return
	}
	if said := hold(t, b, c.Intn(5)*api.MaxLen/4, c.Intn(5)*api.MaxLen/4); strings.Contains(said, "!") {
		text, _ := markup.Write(d, 0)
		t.Fatalf("%s\n%s", text, said)
	}
}

// P120 to P127: such pages are laid as the second telling says.
func TestModelFar(t *testing.T) {
	c := chance{rand.New(rand.NewSource(120))}
	for range 10000 {
		c.far(t, 14)
	}
}
