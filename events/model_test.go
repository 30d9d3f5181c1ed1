package events

import (
	"fmt"
	"math/rand"
	"regexp"
	"slices"
	"sort"
	"strconv"
	"testing"

	"casement/api"
	"casement/tree"
)

// A second telling. Of all ears is asked where in a sending they would hear; what is told is sorted by that, and cut off where one of them ends it. Orders are told by holding any two elements against each other.

// modelEar is an ear with what became of it.
type modelEar struct {
	Ear
	gone bool
}

// hearing of an ear: at which step of a sending, and at which side there.
type hearing struct{ step, side, ear, phase int }

// around: a node is another one, or lies in it.
func around(d *tree.Tree, outer, id int) bool { return slices.Contains(d.Under(outer), id) }

// depth: how many nodes have a node, itself among them.
func depth(d *tree.Tree, id int) int {
	n := 0
	for outer := range d.Size() {
		if around(d, outer, id) {
			n++
		}
	}
	return n
}

// modelHearings of an event, if nobody ended it.
func modelHearings(l []*modelEar, d *tree.Tree, id int, name string, rises bool) []hearing {
	var all []hearing
	for k, x := range l {
		switch here := depth(d, x.Node); {
		case x.gone || x.Name != name || !around(d, x.Node, id):
		case x.Node == id && x.Down:
			all = append(all, hearing{1000, 1, k, 2})
		case x.Node == id:
			all = append(all, hearing{1000, 2, k, 2})
		case x.Down:
			all = append(all, hearing{here, 0, k, 1})
		case rises:
			all = append(all, hearing{3000 - here, 0, k, 3})
		}
	}
	sort.Slice(all, func(i, j int) bool {
		a, b := all[i], all[j]
		if a.step != b.step {
			return a.step < b.step
		}
		if a.side != b.side {
			return a.side < b.side
		}
		return a.ear < b.ear
	})
	return all
}

func modelSend(l []*modelEar, d *tree.Tree, id int, name string, rises bool) ([]Call, bool) {
	var calls []Call
	free, last := true, 5000
	for _, h := range modelHearings(l, d, id, name, rises) {
		if h.step > last {
			break
		}
		x := l[h.ear]
		calls = append(calls, Call{h.ear, x.Node, h.phase})
		x.gone = x.Once
		if x.Bar && !x.Calm {
			free = false
		}
		if x.Stop {
			last = h.step
		}
		if x.Now {
			break
		}
	}
	return calls, free
}

var wholeNumber = regexp.MustCompile(`^-?[0-9]{1,9}$`)

// modelIndex: a tabindex, 0 where none is told; false: the element takes no part.
func modelIndex(d *tree.Tree, id int) (int, bool) {
	attrs := make(map[string]string)
	for _, a := range d.Attrs(id) {
		attrs[a.Name] = a.Value
	}
	_, off := attrs["disabled"]
	text, told := attrs["tabindex"]
	_, href := attrs["href"]
	if d.Kind(id) != api.Element || off {
		return 0, false
	}
	if !told {
		tag := d.Tag(id)
		return 0, tag == "button" || tag == "input" || tag == "select" || tag == "a" && href
	}
	if !wholeNumber.MatchString(text) {
		return 0, false
	}
	n, _ := strconv.Atoi(text)
	return n, n >= 0
}

func modelOrder(d *tree.Tree, root int) []int {
	var l []int
	for id := range d.Size() {
		if _, ok := modelIndex(d, id); ok && around(d, root, id) {
			l = append(l, id)
		}
	}
	sort.Slice(l, func(i, j int) bool {
		a, _ := modelIndex(d, l[i])
		b, _ := modelIndex(d, l[j])
		if a != b && a > 0 && b > 0 {
			return a < b
		}
		if a != b {
			return a > 0
		}
		order, _ := d.Order(l[i], l[j])
		return order < 0
	})
	return l
}

func modelNext(l []int, id int, back bool) int {
	if len(l) == 0 {
		return -1
	}
	first, last := l[0], l[len(l)-1]
	if back {
		first, last = last, first
	}
	for at, other := range l {
		switch {
		case other != id:
		case id == last:
			return first
		case back:
			return l[at-1]
		default:
			return l[at+1]
		}
	}
	return first
}

func modelHover(d *tree.Tree, id int) []int {
	var l []int
	if d.Kind(id) == api.Comment {
		return nil
	}
	for outer := range d.Size() {
		if d.Kind(outer) == api.Element && around(d, outer, id) {
			l = append(l, outer)
		}
	}
	sort.Slice(l, func(i, j int) bool { return depth(d, l[i]) > depth(d, l[j]) })
	return l
}

// chance makes trees and ears.
type chance struct{ *rand.Rand }

func (c chance) of(list ...string) string { return list[c.Intn(len(list))] }

func (c chance) rarely() bool { return c.Intn(6) == 0 }

// tree of some nodes, of which a few are in no document.
func (c chance) tree(most int) *tree.Tree {
	d := tree.New()
	for range c.Intn(most + 1) {
		var id int
		switch c.Intn(6) {
		case 0:
			id, _ = d.Text("x")
		case 1:
			id, _ = d.Comment("x")
		default:
			id, _ = d.Element(c.of("a", "b", "button", "input", "select", "p"))
		}
		for range c.Intn(3) {
			d.Set(id, c.of("tabindex", "tabindex", "tabindex", "href", "disabled"), c.of("", "0", "1", "2", "2", "10", "-1", "-0", "999999999", "1000000000", "x", " 1"))
		}
		parent := max(c.Intn(id), c.Intn(id))
		if kind := d.Kind(parent); (kind == api.Document || kind == api.Element) && !c.rarely() {
			d.Put(parent, id, c.Intn(len(d.Kids(parent))+1))
		}
	}
	return d
}

func (c chance) ear(d *tree.Tree) Ear {
	return Ear{
		Node: c.Intn(d.Size()+2) - 1, Name: c.of("click", "click", "click", "key"),
		Down: c.Intn(2) == 0, Once: c.rarely(), Calm: c.rarely(), Stop: c.rarely() && c.rarely(), Now: c.rarely() && c.rarely(), Bar: c.rarely(),
	}
}

// hold all that is told of a tree and ears against the second telling.
func (c chance) hold(t *testing.T, nodes, ears int) {
	t.Helper()
	d := c.tree(nodes)
	e := New()
	var l []*modelEar
	for range c.Intn(ears + 1) {
		x := c.ear(d)
		if got := e.Add(x); got != len(l) {
			t.Fatalf("%+v: %d, want %d", x, got, len(l))
		}
		l = append(l, &modelEar{Ear: x})
	}
	for range 6 {
		id, name, rises := c.Intn(d.Size()+2)-1, c.of("click", "click", "key", ""), c.Intn(3) > 0
		want, wantFree := modelSend(l, d, id, name, rises)
		if got, free := e.Send(d, id, name, rises); !slices.Equal(got, want) || free != wantFree {
			t.Fatalf("%s to %d, rises %v: %v %v, want %v %v", name, id, rises, got, free, want, wantFree)
		}
		k := c.Intn(ears+3) - 1
		can := k >= 0 && k < len(l) && !l[k].gone
		if got := c.rarely() && e.Drop(k); got && !can {
			t.Fatalf("%d is dropped", k)
		} else if got {
			l[k].gone = true
		}
		c.holdFocus(t, d)
	}
}

// holdFocus: orders and what is pointed at.
func (c chance) holdFocus(t *testing.T, d *tree.Tree) {
	t.Helper()
	root, id, back := c.Intn(d.Size()+2)-1, c.Intn(d.Size()+2)-1, c.Intn(2) == 0
	if c.Intn(2) == 0 {
		root = 0
	}
	want := modelOrder(d, root)
	if got := Order(d, root); !slices.Equal(got, want) {
		t.Fatalf("under %d: %v, want %v", root, got, want)
	}
	if got := Next(d, root, id, back); got != modelNext(want, id, back) {
		t.Fatalf("under %d of %d, back %v: %d of %v", root, id, back, got, want)
	}
	if got, want := Hover(d, id), modelHover(d, id); !slices.Equal(got, want) {
		t.Fatalf("over %d: %v, want %v", id, got, want)
	}
}

// P150 to P153: of trees and ears made by chance is told what the second telling says.
func TestModel(t *testing.T) {
	c := chance{rand.New(rand.NewSource(15))}
	for range 3000 {
		c.hold(t, 14, 20)
	}
}

func FuzzEvents(f *testing.F) {
	f.Add(int64(1))
	f.Fuzz(func(t *testing.T, seed int64) { chance{rand.New(rand.NewSource(seed))}.hold(t, 20, 40) })
}

// P1: a tree as deep as it may be, and as many ears as there may be.
func TestMany(t *testing.T) {
	d := tree.New()
	last := 0
	for {
		id, err := d.Element("button")
		if err != nil {
			break
		}
		d.Put(last, id, 0)
		last = id
	}
	e := New()
	for k := range api.MaxItems {
		e.Add(Ear{Node: k * 2, Name: "click", Down: k%2 == 0})
	}
	l, free := e.Send(d, last, "click", true)
	if len(l) != api.MaxItems || !free {
		t.Error(len(l), free)
	}
	for at, c := range l {
		if want := (Call{at * 2, at * 4, 1}); at < api.MaxItems/2 && c != want {
			t.Errorf("down: %v, want %v", c, want)
		}
	}
	if c := l[len(l)-1]; fmt.Sprint(c) != "{1 2 3}" {
		t.Errorf("up: %v", c)
	}
	if got := Order(d, 0); len(got) != last || got[0] != 1 || got[last-1] != last {
		t.Error(got)
	}
	if got := Hover(d, last); len(got) != last || got[0] != last || got[last-1] != 1 {
		t.Error(got)
	}
	if got := Next(d, 0, last, false); got != 1 {
		t.Error(got)
	}
}
