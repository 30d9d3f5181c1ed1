package choose

import (
	"fmt"
	"slices"
	"strings"
	"testing"

	"casement/api"
	"casement/markup"
	"casement/tree"
)

func TestSizeAndWeight(t *testing.T) {
	for text, want := range map[string][][3]int{
		"*":                            {{0, 0, 0}},
		"a":                            {{0, 0, 1}},
		"* a *":                        {{0, 0, 1}},
		"a b > c + d ~ e":              {{0, 0, 5}},
		"#x":                           {{1, 0, 0}},
		"#x#x.y.y":                     {{2, 2, 0}},
		"[a][b=c]":                     {{0, 2, 0}},
		":root:empty:hover:focus":      {{0, 4, 0}},
		":nth-child(2n):nth-child(1)":  {{0, 2, 0}},
		"a.b#c d:hover[e]":             {{1, 3, 2}},
		"a > .b:nth-child(2n + 1), #c": {{0, 2, 1}, {1, 0, 0}},
		"a, *, .b":                     {{0, 0, 1}, {0, 0, 0}, {0, 1, 0}},
		":not(a, #b c, .d)":            {{1, 0, 1}},
		":is(a b c, .d)":               {{0, 1, 0}},
		":is(.d, a b c)":               {{0, 1, 0}},
		":is(.a b, .a b c, .a)":        {{0, 1, 2}},
		":is(#a, .b.b.b x x x)":        {{1, 0, 0}},
		":has(*)":                      {{0, 0, 0}},
		":has(a):not(.b):is(#c)":       {{1, 1, 1}},
		"a:not(b:is(.c, d e)) f":       {{0, 1, 3}},
		":not(a,a):is(b,b)":            {{0, 0, 2}},
	} {
		l := mustRead(t, text)
		if l.Size() != len(want) {
			t.Errorf("%q: size %d, want %d", text, l.Size(), len(want))
			continue
		}
		for i, w := range want {
			if l.Weight(i) != w {
				t.Errorf("%q, %d: %v, want %v", text, i, l.Weight(i), w)
			}
		}
		for _, none := range []int{-1, len(want), 1 << 40, -1 << 63} {
			if l.Weight(none) != [3]int{} {
				t.Errorf("%q: there is no %d", text, none)
			}
		}
	}
}

// holdQueries: what is found in a tree's document.
func holdQueries(t *testing.T, d *tree.Tree, s State, cases map[string]string) {
	t.Helper()
	for text, want := range cases {
		l := mustRead(t, text)
		found := Query(d, 0, l, s)
		if got := fmt.Sprint(found); got != want {
			t.Errorf("%q: %s, want %s", text, got, want)
		}
		for id := range d.Size() {
			one := false
			for i := range l.Size() {
				one = one || l.Fits(i, d, id, s)
			}
			if d.Under(0)[0] == 0 && slices.Contains(d.Under(0), id) && one != slices.Contains(found, id) {
				t.Errorf("%q: Fits of %d: %v", text, id, one)
			}
		}
	}
}

func mustGrow(t *testing.T, text string) *tree.Tree {
	t.Helper()
	d, err := markup.Read(text)
	if err != nil {
		t.Fatal(err)
	}
	return d
}

func TestNamesAndAttributes(t *testing.T) {
	d := mustGrow(t, "<p id=x class='a  b\t\n\f\rC'>"+ // 1
		"<b id=X class=ab lang=en-us></b>"+ // 2
		"<i id='x ' class='' lang=en></i>"+ // 3
		"<u class=' ' lang=enus title='a b'></u>"+ // 4
		"<s class='a&#11;b a&nbsp;b' lang='-' title></s>") // 5
	holdQueries(t, d, State{}, map[string]string{
		"*":                   "[1 2 3 4 5]",
		"p":                   "[1]",
		"P":                   "[1]",
		"x":                   "[]",
		"é":                   "[]",
		"p, b, b":             "[1 2]",
		"#x":                  "[1]",
		"#X":                  "[2]",
		"p#x":                 "[1]",
		"b#x":                 "[]",
		".a":                  "[1]",
		".b":                  "[1]",
		".C":                  "[1]",
		".c":                  "[]",
		".ab":                 "[2]",
		".a.b.C":              "[1]",
		".a.ab":               "[]",
		"[lang]":              "[2 3 4 5]",
		"[LANG]":              "[2 3 4 5]",
		"[title]":             "[4 5]",
		"[title='']":          "[5]",
		"[no]":                "[]",
		"[no='']":             "[]",
		"[no|='']":            "[]",
		"[lang=en]":           "[3]",
		"[lang=EN]":           "[]",
		"[lang|=en]":          "[2 3]",
		"[lang|='']":          "[5]",
		"[title|='']":         "[5]",
		"[lang|='en-']":       "[]",
		"[lang^=en]":          "[2 3 4]",
		"[lang^='']":          "[]",
		"[title^='']":         "[]",
		"[lang$=us]":          "[2 4]",
		"[lang$='']":          "[]",
		"[title$='']":         "[]",
		"[lang*=n]":           "[2 3 4]",
		"[lang*='n-']":        "[2]",
		"[lang*='']":          "[]",
		"[title*='']":         "[]",
		"[lang*='-']":         "[2 5]",
		"[class~=a]":          "[1]",
		"[class~='']":         "[]",
		"[class~='a  b']":     "[]",
		"[class~=' ']":        "[]",
		"[title~='a b']":      "[]",
		"[title~=b]":          "[4]",
		"[title='a b']":       "[4]",
		"[id='x ']":           "[3]",
		"[id~=x]":             "[1 3]",
		"[class~='a\u00a0b']": "[5]",
		"[class~='a\vb']":     "[5]",
		".a\u00a0b":           "[5]",
		"[class]":             "[1 2 3 4 5]",
		"[class='']":          "[3]",
	})
}

func TestKinOfElements(t *testing.T) {
	// The document: a comment, 2 (a, 3: a text), 4 a text, 5 (a), 6 (b, 7: a comment), 8 (a: 9 b, 10 a comment), 11 a text.
	d := mustGrow(t, "<!--x--><a>x</a>y<a></a><b><!--y--></b><a><b></b><!--z--></a>z")
	holdQueries(t, d, State{Hover: []int{8, 9, 0, -1, 400}, Focus: []int{2, 3, 2}}, map[string]string{
		":root":                         "[2 5 6 8]",
		"* > :root":                     "[]",
		"* :root":                       "[]",
		":root ~ :root":                 "[5 6 8]",
		":empty":                        "[5 6 9]",
		":first-child":                  "[2 9]",
		":last-child":                   "[8 9]",
		":only-child":                   "[9]",
		":first-of-type":                "[2 6 9]",
		":last-of-type":                 "[6 8 9]",
		"b:first-of-type":               "[6 9]",
		":hover":                        "[8 9]",
		":focus":                        "[2]",
		":hover:focus":                  "[]",
		":hover > :hover":               "[9]",
		":not(:hover)":                  "[2 5 6]",
		"a + a":                         "[5]",
		"a + b":                         "[6]",
		"a ~ a":                         "[5 8]",
		"b ~ a":                         "[8]",
		"a + b + a":                     "[8]",
		"a ~ b + a > b":                 "[9]",
		"a b":                           "[9]",
		"a > b":                         "[9]",
		":nth-child(1)":                 "[2 9]",
		":nth-child(2)":                 "[5]",
		":nth-child(0)":                 "[]",
		":nth-child(-1)":                "[]",
		":nth-child(odd)":               "[2 6 9]",
		":nth-child(even)":              "[5 8]",
		":nth-child(n)":                 "[2 5 6 8 9]",
		":nth-child(-n)":                "[]",
		":nth-child(-n+3)":              "[2 5 6 9]",
		":nth-child(-2n+3)":             "[2 6 9]",
		":nth-child(2n+3)":              "[6]",
		":nth-child(3n-1)":              "[5]",
		":nth-child(3n-2)":              "[2 8 9]",
		":nth-child(n+3)":               "[6 8]",
		":nth-child(0n+4)":              "[8]",
		":nth-child(1000000n-999998)":   "[5]",
		":nth-child(-1000000n+1000000)": "[]",
		":nth-child(-999999n+1000000)":  "[2 9]",
		":nth-child(n-1000000)":         "[2 5 6 8 9]",
		":nth-last-child(1)":            "[8 9]",
		":nth-last-child(4)":            "[2]",
		":nth-last-child(-n+2)":         "[6 8 9]",
		":nth-of-type(1)":               "[2 6 9]",
		":nth-of-type(2)":               "[5]",
		":nth-of-type(3)":               "[8]",
		"b:nth-of-type(2)":              "[]",
		":nth-of-type(2n+1)":            "[2 6 8 9]",
		":not(a)":                       "[6 9]",
		":not(a, b)":                    "[]",
		":not(a > b)":                   "[2 5 6 8]",
		":not(:not(b))":                 "[6 9]",
		":is(a, b):empty":               "[5 6 9]",
		":is(a b, :focus)":              "[2 9]",
		":has(b)":                       "[8]",
		":has(*)":                       "[8]",
		":has(a)":                       "[]",
		":has(:root)":                   "[]",
		":has(a + b + a > b)":           "[8]",
		":has(b:empty) b":               "[9]",
		"a:not(:has(*)) ~ b":            "[6]",
	})
}

// TestBelow: has( looks at all that lies in an element, and at nothing else; what stands to the left may lie around it.
func TestBelow(t *testing.T) {
	d := mustGrow(t, "<div><p><b><i></i></b></p></div><p></p><i></i>")
	holdQueries(t, d, State{}, map[string]string{
		":has(i)":                   "[1 2 3]",
		":has(b)":                   "[1 2]",
		"p:has(div i)":              "[2]",
		"b:has(div > p i)":          "[3]",
		"b:has(b)":                  "[]",
		"b:has(b > i)":              "[3]",
		"i:has(*)":                  "[]",
		":not(:has(*))":             "[4 5 6]",
		":has(i):not(:has(p))":      "[2 3]",
		":is(:has(i) i, :has(b) b)": "[3 4]",
	})
}

func TestWaysBack(t *testing.T) {
	// The nearest that fits is not always the one from which it goes on.
	d := mustGrow(t, "<a><div><b><div><i></i></div></b></div></a><p></p><s></s><p></p><u></u><u></u>")
	holdQueries(t, d, State{}, map[string]string{
		"a > div i":            "[5]",
		"b > div i":            "[5]",
		"a > div > b i":        "[5]",
		"a div div i":          "[5]",
		"a div div div i":      "[]",
		"div > div i":          "[]",
		"s + p ~ u":            "[9 10]",
		"a + p ~ u":            "[9 10]",
		"a + p ~ p ~ u":        "[9 10]",
		"p ~ p ~ p ~ u":        "[]",
		"p + s ~ u + u":        "[10]",
		"a ~ u + u":            "[10]",
		"a + p + s + p + u":    "[9]",
		"a div b":              "[3]",
		"div a":                "[]",
		"u ~ a, i, u ~ u, i *": "[5 10]",
	})
}

func TestRootsThatAreNoKids(t *testing.T) {
	d := tree.New()
	for _, tag := range []string{"a", "b", "a"} {
		if _, err := d.Element(tag); err != nil {
			t.Fatal(err)
		}
	}
	if err := d.Put(1, 2, 0); err != nil {
		t.Fatal(err)
	}
	for text, want := range map[string]string{
		"a":                  "[1 3]",
		"b":                  "[2]",
		":root":              "[]",
		"a > b":              "[2]",
		"a ~ a":              "[]",
		":only-child":        "[1 2 3]",
		":first-child":       "[1 2 3]",
		":last-of-type":      "[1 2 3]",
		":nth-child(1)":      "[1 2 3]",
		":nth-of-type(2)":    "[]",
		":nth-last-child(1)": "[1 2 3]",
		":has(b)":            "[1]",
		":empty":             "[2 3]",
	} {
		l := mustRead(t, text)
		var got []int
		for id := -2; id < 10; id++ {
			if l.Fits(0, d, id, State{}) {
				got = append(got, id)
			}
		}
		if fmt.Sprint(got) != want {
			t.Errorf("%q: %v, want %s", text, got, want)
		}
	}
	l := mustRead(t, "a, b")
	if got := fmt.Sprint(Query(d, 1, l, State{}), Query(d, 0, l, State{}), Query(d, 3, l, State{})); got != "[2] [] []" {
		t.Error(got)
	}
}

func TestNothingOfNothing(t *testing.T) {
	d := mustGrow(t, "<a>x<!--y--></a>")
	l := mustRead(t, "*, a")
	for _, id := range []int{-1, 0, 2, 3, 4, 400, 1 << 40, -1 << 63} {
		if l.Fits(0, d, id, State{}) || l.Fits(1, d, id, State{Hover: []int{id}}) {
			t.Errorf("%d is no element", id)
		}
	}
	for _, i := range []int{-1, 2, 1 << 40, -1 << 63} {
		if l.Fits(i, d, 1, State{}) {
			t.Errorf("there is no %d", i)
		}
	}
	if !l.Fits(0, d, 1, State{}) || !l.Fits(1, d, 1, State{}) || l.Fits(0, nil, 1, State{}) {
		t.Error("Fits")
	}
	if Query(nil, 0, l, State{}) != nil || Query(d, 0, nil, State{}) != nil || Query(d, 9, l, State{}) != nil || Query(d, -1, l, State{}) != nil || Query(d, 2, l, State{}) != nil {
		t.Error("Query of nothing")
	}
	if got := Query(d, 0, l, State{}); !slices.Equal(got, []int{1}) {
		t.Error(got)
	}
	var none *List
	if none.Text() != "" || none.Size() != 0 || none.Weight(0) != [3]int{} || none.Fits(0, d, 1, State{}) {
		t.Error("a nil list")
	}
	for _, f := range []*Finder{none.Finder(d, State{}), none.Finder(nil, State{}), l.Finder(nil, State{})} {
		if w, ok := f.Greatest(1); ok || w != [3]int{} {
			t.Error("a finder of nothing")
		}
	}
	if w, ok := l.Finder(d, State{}).Greatest(1); !ok || w != [3]int{0, 0, 1} {
		t.Error(w, ok)
	}
}

// TestNothingIsKept: what is handed over is only read, and a tree that changed is asked anew.
func TestNothingIsKept(t *testing.T) {
	d := mustGrow(t, "<a></a><b></b>")
	l := mustRead(t, ":hover, b:first-child")
	hover := []int{1, 1, 7}
	s := State{Hover: hover}
	if got := Query(d, 0, l, s); !slices.Equal(got, []int{1}) || !slices.Equal(hover, []int{1, 1, 7}) {
		t.Error(got)
	}
	if err := d.Take(1); err != nil {
		t.Fatal(err)
	}
	hover[0] = 2
	if got := Query(d, 0, l, s); !slices.Equal(got, []int{2}) {
		t.Error(got)
	}
	got := Query(d, 0, l, s)
	got[0] = 9
	if again := Query(d, 0, l, s); !slices.Equal(again, []int{2}) {
		t.Error(again)
	}
}

// deepTree: elements within elements, as many as there may be; flatTree: side by side.
func deepTree(t *testing.T) *tree.Tree {
	return manyNodes(t, func(id int) int { return id - 1 })
}

func flatTree(t *testing.T) *tree.Tree {
	return manyNodes(t, func(int) int { return 0 })
}

func manyNodes(t *testing.T, parent func(id int) int) *tree.Tree {
	t.Helper()
	d := tree.New()
	for d.Size() < api.MaxNodes {
		id, err := d.Element("a")
		if err != nil {
			t.Fatal(err)
		}
		d.Set(id, "class", strings.Repeat("b ", 100)+"a")
		if err := d.Put(parent(id), id, len(d.Kids(parent(id)))); err != nil {
			t.Fatal(err)
		}
	}
	return d
}

// TestManyWays: chains that could be gone through in more ways than there is time for.
func TestManyWays(t *testing.T) {
	deep, flat := deepTree(t), flatTree(t)
	last := api.MaxNodes - 1
	for text, d := range map[string]*tree.Tree{
		"x" + strings.Repeat(" a", api.MaxItems-1):                                       deep,
		"x" + strings.Repeat(" ~ a", api.MaxItems-1):                                     flat,
		"x" + strings.Repeat(" a > a", (api.MaxItems-1)/2):                               deep,
		"x" + strings.Repeat(" ~ a + a", (api.MaxItems-1)/2):                             flat,
		"x" + strings.Repeat(" :has(a)", api.MaxItems/2-1):                               deep,
		"x" + strings.Repeat(" :is(a a a a a a a a a)", api.MaxItems/10-1):               deep,
		"x" + strings.Repeat(" :not(x a a a a a a a a)", api.MaxItems/10-1):              deep,
		strings.Repeat(":is(a ", api.MaxDeep) + "x" + strings.Repeat(")", api.MaxDeep):   deep,
		strings.Repeat(":not(a ", api.MaxDeep) + "x" + strings.Repeat(")", api.MaxDeep):  deep,
		strings.Repeat(":is(a ~ ", api.MaxDeep) + "x" + strings.Repeat(")", api.MaxDeep): flat,
		":has(" + strings.Repeat("a ", api.MaxItems-2) + "x)":                            deep,
		strings.Repeat(".a", api.MaxText/2-1) + " x":                                     deep,
		strings.Repeat(":nth-child(n)", api.MaxText/13-1) + " x":                         flat,
		strings.Repeat(":nth-of-type(n)", api.MaxText/15-1) + ":not(a)":                  flat,
	} {
		l := mustRead(t, text)
		if got := Query(d, 0, l, State{}); len(got) != 0 && !strings.Contains(text, ":not(a ") {
			t.Errorf("%.30q: %v", text, got)
		}
		l.Fits(0, d, last, State{})
	}
	if got := Query(deep, 0, mustRead(t, strings.Repeat("a ", api.MaxItems)), State{}); len(got) != api.MaxNodes-api.MaxItems {
		t.Errorf("%d elements lie in that many", len(got))
	}
	if got := Query(flat, 0, mustRead(t, strings.Repeat("a ~ ", api.MaxItems-1)+"a"), State{}); len(got) != api.MaxNodes-api.MaxItems {
		t.Errorf("%d elements stand behind that many", len(got))
	}
}
