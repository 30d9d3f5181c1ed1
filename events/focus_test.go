package events

import (
	"fmt"
	"math"
	"slices"
	"strings"
	"testing"

	"casement/tree"
)

// holdOrder of a page.
func holdOrder(t *testing.T, text string, root int, want ...int) {
	t.Helper()
	if got := Order(read(t, text), root); !slices.Equal(got, want) {
		t.Errorf("%s at %d: %v, want %v", text, root, got, want)
	}
}

// P152: which tags take part of themselves.
func TestOrderTags(t *testing.T) {
	holdOrder(t, `<button></button><input><select></select><a href></a><a href="x"></a><a></a><b href="x"></b><p></p><img><option></option><textarea></textarea>`, 0, 1, 2, 3, 4, 5)
	holdOrder(t, `<BUTTON></BUTTON><A HREF=x></A><buttons></buttons><abbr href=x></abbr>`, 0, 1, 2)
	holdOrder(t, `<a id=href></a><a hrefs=x></a><a tabindexes=1 href></a>`, 0, 3)
	holdOrder(t, `words<!--button-->`, 0)
}

// P152: a tabindex is a whole number; with one that is none, or below 0, nothing takes part.
func TestOrderIndex(t *testing.T) {
	for _, text := range []string{"0", "-0", "00", "000000000", "-000000000"} {
		for _, tag := range []string{"b", "a", "button"} {
			d := read(t, fmt.Sprintf(`<%s tabindex="%s"></%s><input><b tabindex="1"></b>`, tag, text, tag))
			if got := Order(d, 0); !slices.Equal(got, []int{3, 1, 2}) {
				t.Errorf("%s %q: %v", tag, text, got)
			}
		}
	}
	for _, text := range []string{"2", "02", "999999999", "000000002"} {
		for _, tag := range []string{"b", "a", "button"} {
			d := read(t, fmt.Sprintf(`<input><b tabindex="1"></b><%s tabindex="%s"></%s>`, tag, text, tag))
			if got := Order(d, 0); !slices.Equal(got, []int{2, 3, 1}) {
				t.Errorf("%s %q: %v", tag, text, got)
			}
		}
	}
	for _, text := range []string{
		"", "-", "-1", "-01", "-999999999", "--1", "--0", "+1", "+0", " 1", "1 ", "\t1", "1px", "1.0", "1e1", "0x1", "1_0", "x", "1-", "1-1", "- 1", "1 1", "٣", "１", "½",
		"1000000000", "0000000000", "0000000001", "-1000000000", "-0000000000", strings.Repeat("1", 40), "4294967297", "18446744073709551617", "1\x00", "\xff",
	} {
		d := tree.New()
		for at, tag := range []string{"b", "a", "button", "input", "select"} {
			id, _ := d.Element(tag)
			d.Set(id, "tabindex", text)
			d.Set(id, "href", "x")
			d.Put(0, id, at)
		}
		if got := Order(d, 0); len(got) != 0 {
			t.Errorf("%q: %v", text, got)
		}
	}
}

// P152: nothing that has the attribute disabled, whatever it says.
func TestOrderDisabled(t *testing.T) {
	holdOrder(t, `<button disabled></button><input disabled=false><select disabled=""></select><a href disabled></a><b tabindex=1 disabled></b><b tabindex=0 disabled=0></b><b tabindex=1></b><input not-disabled>`, 0, 7, 8)
	// It says nothing of what lies in it.
	holdOrder(t, `<div tabindex=0 disabled><input></div>`, 0, 2)
}

// P152: by tabindex, then in the tree's order, which is not the one of the numbers; then all others in it.
func TestOrderTurns(t *testing.T) {
	holdOrder(t, `<b tabindex=0></b><b tabindex=3></b><input><b tabindex=1></b><b tabindex=10></b><b tabindex=3></b><b tabindex=1></b><b tabindex=0></b>`, 0, 4, 7, 2, 6, 5, 1, 3, 8)
	holdOrder(t, `<b tabindex=999999999></b><b tabindex=0></b><b tabindex=999999998></b><b tabindex=1></b>`, 0, 4, 3, 1, 2)
	holdOrder(t, `<b tabindex=2><i tabindex=1></i><i tabindex=2></i></b><a href><input></a>`, 0, 2, 1, 3, 4, 5)
	d := read(t, `<b tabindex=1></b><input><b tabindex=1></b><input>`)
	for at, id := range []int{4, 3, 2, 1} {
		d.Put(0, id, at)
	}
	if got := Order(d, 0); !slices.Equal(got, []int{3, 1, 4, 2}) {
		t.Errorf("turned round: %v", got)
	}
	many := tree.New()
	var early, late []int
	for n := range 300 {
		id, _ := many.Element("b")
		many.Put(0, id, n)
		many.Set(id, "tabindex", fmt.Sprint(n%2))
		if n%2 == 1 {
			early = append(early, id)
		} else {
			late = append(late, id)
		}
	}
	if got := Order(many, 0); !slices.Equal(got, append(early, late...)) {
		t.Errorf("many: %v", got)
	}
}

// P152: of what is under a root, it too; of no node and of nil nothing.
func TestOrderRoot(t *testing.T) {
	const text = `<div tabindex=1><a href>x</a><b><input></b></div><input>` // 1: div, 2: a, 3: x, 4: b, 5: input, 6: input
	for root, want := range map[int][]int{0: {1, 2, 5, 6}, 1: {1, 2, 5}, 2: {2}, 3: nil, 4: {5}, 5: {5}, 6: {6}, 7: nil, -1: nil, math.MaxInt: nil, math.MinInt: nil} {
		holdOrder(t, text, root, want...)
		if got := Order(nil, root); len(got) != 0 {
			t.Errorf("of nil, at %d: %v", root, got)
		}
	}
	d := read(t, text)
	d.Take(4)
	if a, b := Order(d, 0), Order(d, 4); !slices.Equal(a, []int{1, 2, 6}) || !slices.Equal(b, []int{5}) {
		t.Errorf("apart: %v, %v", a, b)
	}
}

// P152: whether a tabindex that is none leaves a tag as it is: the attribute is there, so it does not.
func TestOrderBadIndex(t *testing.T) {
	holdOrder(t, `<button tabindex=x></button><input tabindex><a href tabindex=" 1"></a><button></button>`, 0, 4)
}

// P4: what is answered is new.
func TestOrderNew(t *testing.T) {
	d := read(t, `<input><b tabindex=1></b><input>`)
	l := Order(d, 0)
	l[0], l[1] = 9, 9
	holdOrder(t, `<input><b tabindex=1></b><input>`, 0, 2, 1, 3)
	if got := Order(d, 0); !slices.Equal(got, []int{2, 1, 3}) || Next(d, 0, 2, false) != 1 {
		t.Error(got)
	}
}

// P152: who comes behind, who ahead; round at both ends.
func TestNext(t *testing.T) {
	const text = `<input><p>x<b tabindex=2></b></p><!--c--><b tabindex=1></b><input disabled><input>` // in order: 6, 4, 1, 8
	d := read(t, text)
	holdOrder(t, text, 0, 6, 4, 1, 8)
	for _, c := range []struct{ id, next, back int }{
		{6, 4, 8}, {4, 1, 6}, {1, 8, 4}, {8, 6, 1},
		{0, 6, 8}, {2, 6, 8}, {3, 6, 8}, {5, 6, 8}, {7, 6, 8}, {9, 6, 8}, {-1, 6, 8}, {math.MaxInt, 6, 8}, {math.MinInt, 6, 8},
	} {
		if next, back := Next(d, 0, c.id, false), Next(d, 0, c.id, true); next != c.next || back != c.back {
			t.Errorf("of %d: %d, back %d, want %d, %d", c.id, next, back, c.next, c.back)
		}
	}
	// Under another root others take part; what does not lie there takes none.
	for _, c := range []struct{ root, id, next, back int }{
		{2, 4, 4, 4}, {2, 1, 4, 4}, {2, 8, 4, 4}, {4, 4, 4, 4}, {2, -1, 4, 4},
		{3, 3, -1, -1}, {7, 7, -1, -1}, {5, 1, -1, -1}, {9, 1, -1, -1}, {-1, -1, -1, -1}, {-1, 1, -1, -1},
	} {
		if next, back := Next(d, c.root, c.id, false), Next(d, c.root, c.id, true); next != c.next || back != c.back {
			t.Errorf("at %d, of %d: %d, back %d, want %d, %d", c.root, c.id, next, back, c.next, c.back)
		}
	}
	for _, id := range []int{-1, 0, 1} {
		for _, back := range []bool{false, true} {
			if got := Next(nil, 0, id, back); got != -1 {
				t.Errorf("of nil, %d: %d", id, got)
			}
			if got := Next(tree.New(), 0, id, back); got != -1 {
				t.Errorf("of a document alone, %d: %d", id, got)
			}
		}
	}
}
