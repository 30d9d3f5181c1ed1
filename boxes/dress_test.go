package boxes

import (
	"testing"

	"casement/api"
	"casement/cascade"
	"casement/sheet"
)

// By the styles that Styles tells, Dress makes what Make makes; what has no style makes nothing.
func TestDress(t *testing.T) {
	d := mustGrow(t, "<div>a<p>b<b>c</b></p><p>d</p></div>") // 1: div, 2: a, 3: p, 4: b, 5: b, 6: c, 7: p, 8: d
	s, err := sheet.Read(base)
	if err != nil {
		t.Fatal(err)
	}
	l := []cascade.Source{{Sheet: s}}
	ids, all := cascade.Styles(d, 0, l, cascade.View{})
	styles := make(map[int]*cascade.Style)
	for i, id := range ids {
		styles[id] = &all[i]
	}
	hold := func(root int, want string) {
		t.Helper()
		if got := shown(Dress(d, root, styles)); got != want {
			t.Errorf("%s, want %s", got, want)
		}
	}
	const whole = `B1(L0(T2"a") B3(L0(T4"b" I5(T6"c"))) B7(L0(T8"d")))`
	hold(1, whole)
	if got := shown(Make(d, 1, l, cascade.View{})); got != whole {
		t.Error(got)
	}
	if b := Dress(d, 3, styles); b.Style != styles[3] || b.Kids[0].Kids[0].Style != styles[3] || b.Kids[0].Kids[1].Style != styles[5] {
		t.Error("other styles than those that were handed over")
	}
	styles[5].V[api.PDisplay].Text = "block"
	hold(3, `B3(L0(T4"b") B5(L0(T6"c")))`)
	delete(styles, 3)
	hold(1, `B1(L0(T2"a") B7(L0(T8"d")))`)
	hold(3, "nil")
	hold(0, "nil")
	hold(2, "nil")
	hold(99, "nil")
	if Dress(d, 1, nil) != nil || Dress(nil, 1, styles) != nil {
		t.Error("a box of nothing")
	}
}
