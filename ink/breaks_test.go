package ink

import (
	"slices"
	"strings"
	"testing"
	"unicode/utf8"

	"casement/api"
)

type breakCase struct {
	text string
	want []int
}

func checkBreaks(t *testing.T, l []breakCase) {
	t.Helper()
	for _, c := range l {
		if got := Breaks(c.text); !slices.Equal(got, c.want) {
			t.Errorf("Breaks(%q) = %v, want %v", c.text, got, c.want)
		}
	}
}

// P11: no place is ahead of the first rune or behind the last one.
func TestBreaksAtEnds(t *testing.T) {
	checkBreaks(t, []breakCase{
		{"", nil},
		{"a", nil},
		{" ", nil},
		{"-", nil},
		{"\u200b", nil},
		{"\u00ad", nil},
		{"\u4e2d", nil},
		{"a ", nil},
		{"a\u200b", nil},
		{"a-", nil},
	})
}

// P11: behind blanks, of several behind the last one; other white bytes are no blanks.
func TestBreaksAtBlanks(t *testing.T) {
	checkBreaks(t, []breakCase{
		{"a b", []int{2}},
		{"a  b ", []int{3}},
		{"   a", []int{3}},
		{"a b c", []int{2, 4}},
		{" \t \n", []int{1, 3}},
		{"a\tb\nc\fd\re", nil},
		{"a -b", []int{2}},
		{"\u4e2d \u3002", []int{4}},
		{"a \u200bb", []int{2, 5}},
	})
}

// P11: behind U+200B and U+00AD whatever stands there, a blank too.
func TestBreaksAtMarksWithoutWidth(t *testing.T) {
	checkBreaks(t, []breakCase{
		{"a\u200bb\u00adc", []int{4, 7}},
		{"a\u200b b", []int{4, 5}},
		{"a\u00ad b", []int{3, 4}},
		{"\u200b\u200b\u00ad\u00ad-", []int{3, 6, 8, 10}},
		{"\u300c\u200b\u3002", []int{6}},
	})
}

// P11: behind a dash that has a letter or digit ahead and a letter behind it.
func TestBreaksAtDashes(t *testing.T) {
	checkBreaks(t, []breakCase{
		{"well-known", []int{5}},
		{"a\u2010b", []int{4}},
		{"7-b", []int{2}},
		{"0\u2010b", []int{4}},
		{"a-7", nil},
		{"7-8", nil},
		{"-a", nil},
		{"\u2010a", nil},
		{" -a", []int{1}},
		{"a--b", nil},
		{"a-\u2010b", nil},
		{"a- b", []int{3}},
		{"a\u2011b", nil},
		{"a\u2013b", nil},
		{"a-b-c\u2010d", []int{2, 4, 8}},
		{"\u4e2d-a", nil},
		{"a-\u4e2d", nil},
	})
}

// P11: the edges of what letters and digits are, on both sides of a dash.
func TestBreaksLettersAndDigits(t *testing.T) {
	letters := []rune{'a', 'z', 'A', 'Z', 0xC0, 0xD6, 0xD8, 0xF6, 0xF8, 0xFF, 0x100, 0x24F}
	others := []rune{'@', '[', '`', '{', '_', '/', ':', 0xAA, 0xB5, 0xBF, 0xD7, 0xF7, 0x250, 0x391, 0x430, 0x660, 0xFF11, 0xFF21}
	for _, r := range letters {
		s := string(r)
		checkBreaks(t, []breakCase{{s + "-a", []int{len(s) + 1}}, {"a-" + s, []int{2}}})
	}
	for r := '0'; r <= '9'; r++ {
		s := string(r)
		checkBreaks(t, []breakCase{{s + "-a", []int{2}}, {"a-" + s, nil}})
	}
	for _, r := range others {
		s := string(r)
		checkBreaks(t, []breakCase{{s + "-a", nil}, {"a-" + s, nil}})
	}
}

// P11: between wide runes, but not behind one that opens nor ahead of one that closes.
func TestBreaksBetweenWideRunes(t *testing.T) {
	checkBreaks(t, []breakCase{
		{"\u4e2d\u6587\u3002\u4e2d", []int{3, 9}},
		{"\u300c\u4e2d\u300d", nil},
		{"\u4e2d\u300c\u4e2d\u300d\u4e2d", []int{3, 12}},
		{"\u300d\u300c", []int{3}},
		{"\u4e2da\u4e2d", nil},
		{"\u2e80\ud7ff\uf900\ufaff\uff01\uff60", []int{3, 6, 9, 12, 15}},
		{"\u2e7f\u4e2d\ue000\u4e2d\uf8ff\u4e2d\ufb00\u4e2d\uff00\u4e2d\uff61", nil},
	})
	for _, r := range []rune{0x300C, 0x300E, 0xFF08} {
		s := string(r)
		checkBreaks(t, []breakCase{{s + "\u4e2d", nil}, {"\u4e2d" + s, []int{3}}})
	}
	for _, r := range []rune{0x3001, 0x3002, 0x300D, 0x300F, 0xFF09, 0xFF0C} {
		s := string(r)
		checkBreaks(t, []breakCase{{"\u4e2d" + s, nil}, {s + "\u4e2d", []int{3}}})
	}
}

// P11: never next to U+00A0 or U+2060.
func TestBreaksAreHeld(t *testing.T) {
	for _, r := range []rune{0xA0, 0x2060} {
		s := string(r)
		checkBreaks(t, []breakCase{
			{"a " + s + "b", nil},
			{s + "a", nil},
			{"a" + s + " b", []int{len(s) + 2}},
			{"a\u200b" + s + "b", nil},
			{"a\u00ad" + s + "b", nil},
			{"\u4e2d" + s + "\u4e2d", nil},
			{"a-" + s + "b", nil},
			{"a" + s + "-b", nil},
		})
	}
}

// P11: bytes that are of no rune are U+FFFD, each by itself: no letter, not wide, no blank.
func TestBreaksOfWrongBytes(t *testing.T) {
	checkBreaks(t, []breakCase{
		{"\xff\xfe", nil},
		{" \xff", []int{1}},
		{"\xff \xff", []int{2}},
		{"\xff-a", nil},
		{"a-\xff", nil},
		{"a-\xc3", nil},
		{"a\xad\xa0b", nil}, // these bytes alone are neither U+00AD nor U+00A0
		{" \xa0", []int{1}},
		{"\u4e2d\xe4\xb8\u4e2d", nil},
		{"\xe2\x80 \xe2\x80", []int{3}},
		{"\u200b\xff\u200b\xff", []int{3, 7}},
	})
}

// told says the rules of P11 a second time, by a list of runes, so that all triples can be held against it.
func told(text string) []int {
	const alphabet = "abcdefghijklmnopqrstuvwxyzABCDEFGHIJKLMNOPQRSTUVWXYZ\u00c0\u024f"
	var out []int
	l := []rune(text)
	for i := 1; i < len(l); i++ {
		a, b := l[i-1], l[i]
		ok := a == ' ' && b != ' ' || strings.ContainsRune("\u200b\u00ad", a)
		if i > 1 && strings.ContainsRune("-\u2010", a) {
			ok = ok || strings.ContainsRune(alphabet+"0123456789", l[i-2]) && strings.ContainsRune(alphabet, b)
		}
		if api.Wide(a) && api.Wide(b) {
			ok = ok || !strings.ContainsRune("\u300c\u300e\uff08", a) && !strings.ContainsRune("\u3001\u3002\u300d\u300f\uff09\uff0c", b)
		}
		if ok && !strings.ContainsAny(string([]rune{a, b}), "\u00a0\u2060") {
			out = append(out, len(string(l[:i])))
		}
	}
	return out
}

// P11: every triple of runes that a rule speaks of, and of some that none does.
func TestBreaksOfAllTriples(t *testing.T) {
	runes := []rune(" \t-aZ09.\u00a0\u00ad\u00c0\u00d7\u00f7\u024f\u0250\u2010\u200b\u2060\u3001\u3002\u300c\u300d\u300e\u300f\u4e2d\uac00\uff08\uff09\uff0c\ufffd\U0001f600")
	for _, x := range runes {
		for _, y := range runes {
			for _, z := range runes {
				s := string([]rune{x, y, z})
				if got, want := Breaks(s), told(s); !slices.Equal(got, want) {
					t.Fatalf("Breaks(%q) = %v, want %v", s, got, want)
				}
			}
		}
	}
}

// P2 and P4: the same text has the same places, and each answer is memory of its own.
func TestBreaksAreNew(t *testing.T) {
	const text = "a b c-d"
	one, two := Breaks(text), Breaks(text)
	for i := range one {
		one[i] = -7
	}
	want := []int{2, 4, 6}
	if !slices.Equal(two, want) || !slices.Equal(Breaks(text), want) {
		t.Errorf("an answer changed with another one: %v, %v", two, Breaks(text))
	}
}

// P1: any bytes at all have a width and places, which ascend, lie within the text and ahead of a rune.
func FuzzInk(f *testing.F) {
	for _, s := range []string{"", "a b", "a-b\xff-c", "\u4e2d\u6587\u3002", "\xe4\xb8\xad\xe4 \u00a0", "\x00\x80\u200b\u00ad"} {
		f.Add(1024, s)
	}
	f.Fuzz(func(t *testing.T, size int, text string) {
		if w := Width(size, text); w < 0 || w > api.MaxLen*utf8.RuneCountInString(text) {
			t.Errorf("Width(%d, %q) = %d", size, text, w)
		}
		starts := map[int]int{}
		for at := range text {
			starts[at] = 1
		}
		ahead := 0
		for _, at := range Breaks(text) {
			if at <= ahead || starts[at] == 0 {
				t.Errorf("Breaks(%q) has %d behind %d", text, at, ahead)
			}
			ahead = at
		}
	})
}
