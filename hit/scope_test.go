package hit

import (
	"testing"

	"casement/api"
)

// scopeOf a page.
type scopeOf struct{ text, rules, want string }

func holdScopes(t *testing.T, pages []scopeOf) {
	t.Helper()
	for _, p := range pages {
		if got := shown(Scope(page(t, p.text, p.rules))); got != p.want {
			t.Errorf("%s with %s: %s, want %s", p.text, p.rules, got, p.want)
		}
	}
}

// P142: the root's border box, wherever it is, also without height; of nil nothing.
func TestScopeRoot(t *testing.T) {
	holdScopes(t, []scopeOf{
		{`<div></div>`, ``, `0,0,100,0`},
		{`<div></div>`, `div{height:5px}`, `0,0,100,5`},
		{`<div></div>`, `div{height:200px;width:1px;margin:3px;border:1px;padding:2px}`, `3,3,7,206`},
		{`<div></div>`, `div{height:5px;position:relative;left:30px;top:-3px}`, `30,-3,100,5`},
		{`<h></h>`, `h{border:2px}`, `0,0,100,4`},
		{`<div>mm</div>`, `div{width:20px}`, `0,0,20,10`},
	})
	if got := Scope(nil); got != (api.Rect{}) {
		t.Errorf("of nil: %v", got)
	}
}

// P142: all frames on each side of it, whatever they are.
func TestScopeAll(t *testing.T) {
	holdScopes(t, []scopeOf{
		{`<div><p></p></div>`, `p{height:5px;width:120px}`, `0,0,120,5`},
		{`<div><p></p></div>`, `div{height:2px}p{height:5px}`, `0,0,100,5`},
		{`<div><p></p></div>`, `p{height:5px;position:relative;left:-8px;top:-3px}`, `-8,-3,108,8`},
		{`<div><p></p><b></b></div>`, `div{height:2px}p,b{width:3px;height:4px;position:absolute;left:110px;top:-7px}b{left:-20px;top:50px}`, `-20,-7,133,61`},
		{`<div>mmmm</div>`, `div{width:20px;height:3px}`, `0,0,32,10`},
		{`<div>m<b>m</b></div>`, `b{padding:3px;border:1px}`, `0,-4,100,18`},
		{`<div><b></b></div>`, `b{float:left;width:120px;height:3px}div{height:0}`, `0,0,120,3`},
		{`<f><b></b><b></b></f>`, `b{width:80px;flex-shrink:0;height:1px}`, `0,0,160,1`},
		{`<div><p><b><i></i></b></p></div>`, `b,i{display:block;margin-left:40px;width:50px}i{height:1px}`, `0,0,130,1`},
		// Lines of no node, too.
		{`<div><p>m<b></b></p></div>`, `p{width:150px;margin-right:-50px}`, `0,0,150,10`},
	})
	// Whether they can be seen says nothing.
	for _, rules := range []string{`p{visibility:hidden}`, `p{pointer-events:none}`, `p{position:relative;z-index:-1}`} {
		holdScopes(t, []scopeOf{{`<div><p></p></div>`, rules + `p{height:5px;width:120px}`, `0,0,120,5`}})
	}
}

// P142: as they are when they are cut; those of which nothing is left are not there.
func TestScopeCut(t *testing.T) {
	const one = `<div><h><p></p></h></div>`
	const each = `h{width:20px;height:10px}p{width:150px;height:30px}`
	holdScopes(t, []scopeOf{
		{one, each, `0,0,100,10`},
		{one, each + `h{overflow:visible}`, `0,0,150,30`},
		{one, each + `h{overflow:visible}p{overflow:hidden}`, `0,0,150,30`},
		{one, each + `p{margin:-9px}`, `0,0,100,10`},
		{one, each + `p{position:relative;left:300px}`, `0,0,100,10`},
		{one, each + `p{position:fixed;left:-300px;top:90px}`, `0,0,100,10`},
		{one, each + `p{position:absolute;left:-300px;top:90px;width:0}`, `0,0,100,10`},
		{one, each + `h{width:120px}`, `0,0,120,10`},
		{one, each + `h{width:120px;border:1px}`, `0,0,122,12`},
		{one, each + `h{margin-left:90px}`, `0,0,110,10`},
		{one, each + `div{overflow:hidden}h{margin-left:90px}`, `0,0,100,10`},
		{`<h><p></p></h>`, each, `0,0,20,10`},
		{`<h><p></p></h>`, each + `h{margin:3px 5px}p{position:absolute;left:-300px}`, `5,3,20,10`},
		{`<h><p></p></h>`, each + `h{margin:3px 5px}p{position:absolute;top:11px}`, `5,3,20,10`},
		{`<div><h><h><p></p></h></h></div>`, each + `h{position:relative;left:95px}h>h{width:30px;height:40px}`, `0,0,115,10`},
	})
}

// P142: what nothing cuts is left as it is, also without width or height.
func TestScopeFlat(t *testing.T) {
	holdScopes(t, []scopeOf{
		{`<div><p></p></div>`, `p{width:120px}`, `0,0,120,0`},
		{`<div><p></p></div>`, `p{position:absolute;left:130px;top:-4px}`, `0,-4,130,4`},
		{`<div><p></p></div>`, `p{position:absolute;left:130px;top:9px;height:2px}`, `0,0,130,11`},
		{`<div><h></h></div>`, `h{position:absolute;left:130px;top:9px}`, `0,0,130,9`},
		{`<h><p></p></h>`, `p{width:120px}`, `0,0,100,0`},
		{`<h><p></p></h>`, `p{position:absolute;left:130px;top:-4px}`, `0,0,100,0`},
	})
}
