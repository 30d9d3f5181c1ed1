package sheet

import (
	"errors"
	"math"
	"math/rand"
	"regexp"
	"slices"
	"strconv"
	"strings"
	"testing"

	"casement/api"
)

// A second telling of the chapter, made otherwise than the program: tokens are found by patterns, what is opened is a tree, and the form's /**/ stands where patterns say so.

// Each byte of a text is a rune here, so that patterns speak of bytes.
func wide(text string) string {
	runes := make([]rune, len(text))
	for i := range len(text) {
		runes[i] = rune(text[i])
	}
	return string(runes)
}

func narrow(text string) string {
	var out []byte
	for _, r := range text {
		out = append(out, byte(r))
	}
	return string(out)
}

const (
	namePattern   = `(?:-?[a-zA-Z_\x{80}-\x{ff}]|--)[-a-zA-Z0-9_\x{80}-\x{ff}]*`
	numberPattern = `[+-]?(?:[0-9]+\.[0-9]+|\.[0-9]+|[0-9]+)`
)

// mKinds: patterns in the order in which they are tried.
var mKinds = []struct {
	kind    string
	pattern *regexp.Regexp
}{
	{"comment", regexp.MustCompile(`^(?s:/\*.*?(?:\*/|$))`)},
	{"blanks", regexp.MustCompile(`^[\t\n\f\r ]+`)},
	{"string", regexp.MustCompile(`^(?:"(?:[^"\\\n]|\\[^\n])*(?:"|\\?$)|'(?:[^'\\\n]|\\[^\n])*(?:'|\\?$))`)},
	{"bad", regexp.MustCompile(`^(?:"(?:[^"\\\n]|\\[^\n])*\\?|'(?:[^'\\\n]|\\[^\n])*\\?)`)},
	{"part", regexp.MustCompile(`^` + numberPattern + `%`)},
	{"number", regexp.MustCompile(`^` + numberPattern + `(?:` + namePattern + `)?`)},
	{"function", regexp.MustCompile(`^` + namePattern + `\(`)},
	{"name", regexp.MustCompile(`^` + namePattern)},
	{"hash", regexp.MustCompile(`^#[-a-zA-Z0-9_\x{80}-\x{ff}]+`)},
	{"at", regexp.MustCompile(`^@` + namePattern)},
	{"sign", regexp.MustCompile(`^(?s:.)`)},
}

// mItem is a token, with what it opens.
type mItem struct {
	kind, text string
	at         int
	kids       []*mItem
	closer     string // the text of what closes it, if that is there
	stray      bool   // it would close, and closes nothing
}

func (m *mItem) opens() string {
	switch {
	case m.kind == "function", m.kind == "sign" && m.text == "(":
		return ")"
	case m.kind == "sign" && m.text == "[":
		return "]"
	case m.kind == "sign" && m.text == "{":
		return "}"
	}
	return ""
}

func (m *mItem) is(sign string) bool { return m.kind == "sign" && m.text == sign }

func mTokens(text string) []*mItem {
	var out []*mItem
	at := 0
	for rest := wide(text); rest != ""; {
		for _, k := range mKinds {
			found := k.pattern.FindString(rest)
			if found == "" {
				continue
			}
			if k.kind != "comment" {
				out = append(out, &mItem{kind: k.kind, text: narrow(found), at: at})
			}
			rest = rest[len(found):]
			at += len(narrow(found))
			break
		}
	}
	return out
}

// mNest: items up to the sign that closes, and what is left from it on.
func mNest(list []*mItem, closer string) ([]*mItem, []*mItem, bool) {
	var out []*mItem
	for len(list) > 0 {
		m := list[0]
		if closer != "" && m.is(closer) {
			return out, list[1:], true
		}
		list = list[1:]
		if c := m.opens(); c != "" {
			closed := false
			m.kids, list, closed = mNest(list, c)
			if closed {
				m.closer = c
			}
		} else if m.is(")") || m.is("]") || m.is("}") {
			m.stray = true
		}
		out = append(out, m)
	}
	return out, nil, false
}

// mFlat: items with all that they open, and what closes it.
func mFlat(list []*mItem) []*mItem {
	var out []*mItem
	for _, m := range list {
		out = append(out, m)
		if c := m.opens(); c != "" {
			out = append(append(out, mFlat(m.kids)...), &mItem{kind: "sign", text: c})
		}
	}
	return out
}

func mTrim(list []*mItem) []*mItem {
	for len(list) > 0 && list[0].kind == "blanks" {
		list = list[1:]
	}
	return mTrimEnd(list)
}

func mTrimEnd(list []*mItem) []*mItem {
	for len(list) > 0 && list[len(list)-1].kind == "blanks" {
		list = list[:len(list)-1]
	}
	return list
}

var mLetters = regexp.MustCompile(`[A-Z]`)

func mSmall(text string) string {
	return narrow(mLetters.ReplaceAllStringFunc(wide(text), strings.ToLower))
}

var (
	mNumber = regexp.MustCompile(`^` + numberPattern)
	mBend   = regexp.MustCompile(`(?s:\\(.)|\\$)`)
)

func (m *mItem) word() string {
	inner := wide(m.text[1:])
	if len(m.text) > 1 && !mOpenEnded.MatchString(wide(m.text)) {
		inner = inner[:len(inner)-1]
	}
	return narrow(mBend.ReplaceAllString(inner, "$1"))
}

// mOpenEnded: a string that the text's end ends.
var mOpenEnded = regexp.MustCompile(`^(?s:"(?:[^"\\]|\\.)*\\?|'(?:[^'\\]|\\.)*\\?)$`)

func (m *mItem) form() string {
	switch m.kind {
	case "blanks":
		return " "
	case "string":
		return `"` + strings.NewReplacer(`"`, `\"`, `\`, `\\`).Replace(m.word()) + `"`
	case "number":
		return mSmall(m.text)
	}
	return m.text
}

// mMeets: ends and beginnings of tokens between which nothing shows where one ends.
var mMeets = []*regexp.Regexp{
	regexp.MustCompile(`^(?:name) \S*\|(?:\S+ [-a-zA-Z0-9_\x{80}-\x{ff}]|sign \()`),
	regexp.MustCompile(`^(?:hash|at|unit) \S*\|\S+ [-a-zA-Z0-9_\x{80}-\x{ff}]`),
	regexp.MustCompile(`^number \S*\|(?:name|function|sign %| *(?:number|unit|part) [0-9])`),
	regexp.MustCompile(`^number [+-]?[0-9]+\|(?:number|unit|part) \.`),
	regexp.MustCompile(`^sign #\|\S+ [-a-zA-Z0-9_\x{80}-\x{ff}]`),
	regexp.MustCompile(`^sign @\|(?:name|function)`),
	regexp.MustCompile(`^sign /\|sign \*`),
	regexp.MustCompile(`^sign \.\|(?:number|unit|part) [0-9]`),
	regexp.MustCompile(`^sign \+\|(?:number|unit|part) [0-9.]`),
	regexp.MustCompile(`^sign -\|(?:name|function|sign -|(?:number|unit|part) [-0-9.])`),
}

func (m *mItem) side() string {
	kind := m.kind
	if kind == "number" && mNumber.FindString(m.text) != m.text {
		kind = "unit"
	}
	if kind == "string" || kind == "blanks" {
		return kind
	}
	return kind + " " + wide(m.form())
}

func mForm(list []*mItem) string {
	text := ""
	var last *mItem
	for _, m := range list {
		if last != nil && last.kind == "blanks" && m.kind == "blanks" {
			continue
		}
		if last != nil && slices.ContainsFunc(mMeets, func(p *regexp.Regexp) bool { return p.MatchString(last.side() + "|" + m.side()) }) {
			text += "/**/"
		}
		text += m.form()
		last = m
	}
	return text
}

func mHas(list []*mItem, is func(*mItem) bool) bool {
	return slices.ContainsFunc(list, func(m *mItem) bool { return is(m) || mHas(m.kids, is) })
}

func mBad(m *mItem) bool { return m.kind == "bad" }

func mStray(m *mItem) bool { return m.stray }

// mDecl with its place.
type mDecl struct {
	Decl
	at int
}

func mSplit(list []*mItem, sign string) [][]*mItem {
	out := [][]*mItem{nil}
	for _, m := range list {
		if m.is(sign) {
			out = append(out, nil)
		} else {
			out[len(out)-1] = append(out[len(out)-1], m)
		}
	}
	return out
}

func mDecls(list []*mItem) []mDecl {
	var out []mDecl
	for _, part := range mSplit(list, ";") {
		part = mTrim(part)
		if len(part) == 0 || part[0].kind != "name" {
			continue
		}
		name, rest := part[0], mTrim(part[1:])
		if len(rest) == 0 || !rest[0].is(":") {
			continue
		}
		value := mTrim(rest[1:])
		if mHas(value, mBad) || mHas(value, mStray) {
			continue
		}
		d := mDecl{at: name.at}
		d.Name = name.text
		if !strings.HasPrefix(d.Name, "--") {
			d.Name = mSmall(d.Name)
		}
		if n := len(value); n > 0 && value[n-1].kind == "name" && mSmall(value[n-1].text) == "important" {
			if ahead := mTrimEnd(value[:n-1]); len(ahead) > 0 && ahead[len(ahead)-1].is("!") {
				value, d.Strong = mTrimEnd(ahead[:len(ahead)-1]), true
			}
		}
		d.Value = mForm(mFlat(mTrimOpen(value)))
		if len(value) > 0 {
			out = append(out, d)
		}
	}
	return out
}

// mTrimOpen: blanks at the end of what the text's end closes are left out, however deep.
func mTrimOpen(list []*mItem) []*mItem {
	list = mTrimEnd(list)
	if n := len(list); n > 0 && list[n-1].opens() != "" && list[n-1].closer == "" {
		last := *list[n-1]
		last.kids = mTrimOpen(last.kids)
		list = append(slices.Clone(list[:n-1]), &last)
	}
	return list
}

// mRule with its place.
type mRule struct {
	media, head string
	at          int
	decls       []mDecl
}

func mRules(list []*mItem, media string, within bool) []mRule {
	var out []mRule
	for list = mTrim(list); len(list) > 0; list = mTrim(list) {
		first := list[0]
		at := first.kind == "at"
		end := slices.IndexFunc(list, func(m *mItem) bool { return m.is("{") || at && m.is(";") })
		if end < 0 {
			return out
		}
		head, brace := list[:end], list[end]
		list = list[end+1:]
		if brace.is(";") || mHas(head, mBad) {
			continue
		}
		if !at {
			out = append(out, mRule{media: media, head: mForm(mFlat(mTrim(head))), at: first.at, decls: mDecls(brace.kids)})
		} else if strings.EqualFold(first.text, "@media") && !within {
			out = append(out, mRules(brace.kids, mForm(mFlat(mTrim(head[1:]))), true)...)
		}
	}
	return out
}

// mRead: a sheet; or where there is too much.
func mRead(text string) (*Sheet, int) {
	if len(text) > api.MaxText {
		return nil, api.MaxText
	}
	nested, _, _ := mNest(mTokens(text), "")
	s, decls := &Sheet{}, 0
	for _, r := range mRules(nested, "", false) {
		if len(s.Rules) == api.MaxRules {
			return nil, r.at
		}
		rule := Rule{Media: r.media, Head: r.head}
		for _, d := range r.decls {
			if decls++; decls > api.MaxDecls {
				return nil, d.at
			}
			rule.Decls = append(rule.Decls, d.Decl)
		}
		s.Rules = append(s.Rules, rule)
	}
	return s, -1
}

func mDeclarations(text string) []Decl {
	var out []Decl
	if len(text) > api.MaxText {
		return nil
	}
	nested, _, _ := mNest(mTokens(text), "")
	for _, d := range mDecls(nested) {
		out = append(out, d.Decl)
	}
	return out[:min(len(out), api.MaxDecls)]
}

const mCondition = `\( *<(?:min|max)-(?:width|height)> *: *=[^=]*=px *\)`

var (
	mEntry = regexp.MustCompile(`^ *(?:<(?:screen|all)>|` + mCondition + `)(?: +<and> +` + mCondition + `)* *$`)
	mEach  = regexp.MustCompile(`<(min|max)-(width|height)> *: *=([^=]*)=px`)
	mThree = regexp.MustCompile(`^[+-]?[0-9]*(?:\.[0-9]{1,3})?$`)
)

// mShape of tokens: names between < and >, numbers with = around them.
func mShape(list []*mItem) string {
	text := ""
	for _, m := range list {
		switch m.kind {
		case "blanks":
			text += " "
		case "name":
			text += "<" + mSmall(m.text) + ">"
		case "number":
			number := mNumber.FindString(m.text)
			text += "=" + number + "=" + mSmall(m.text[len(number):])
		case "sign":
			text += strings.NewReplacer("<", "?", ">", "?", "=", "?").Replace(m.text)
		default:
			text += "?"
		}
	}
	return wide(text)
}

func mApplies(media string, width, height int) bool {
	list := mTokens(media)
	if len(mTrim(list)) == 0 {
		return true
	}
	for _, part := range mSplit(list, ",") {
		if text := mShape(part); mEntry.MatchString(text) && mAll(text, map[string]int{"width": width, "height": height}) {
			return true
		}
	}
	return false
}

func mAll(text string, sizes map[string]int) bool {
	for _, c := range mEach.FindAllStringSubmatch(text, -1) {
		n, err := strconv.ParseFloat(c[3], 64)
		if err != nil || n > api.MaxNum || n < -api.MaxNum || !mThree.MatchString(c[3]) {
			return false
		}
		// Thousandths are whole, and parts far from the next whole number if they are none: floats tell both.
		parts := int(math.Floor(math.Round(n*1000) * api.Unit / 1000))
		parts = max(-api.MaxLen, min(api.MaxLen, parts))
		if c[1] == "min" && parts > sizes[c[2]] || c[1] == "max" && parts < sizes[c[2]] {
			return false
		}
	}
	return true
}

func holdSecond(t *testing.T, text string) {
	t.Helper()
	want, at := mRead(text)
	got, err := Read(text)
	var f *api.Fault
	switch {
	case want == nil:
		if got != nil || !errors.As(err, &f) || f.At != at || f.Err != api.ErrBound {
			t.Fatalf("%q: %v, want a bound at %d", text, err, at)
		}
	case err != nil || told(got) != told(want):
		t.Fatalf("%q: %v %s, want %s", text, err, told(got), told(want))
	default:
		holdWritten(t, got)
	}
	if got, want := shown(Declarations(text)), shown(mDeclarations(text)); got != want {
		t.Fatalf("%q: %s, want %s", text, got, want)
	}
	if got, want := Applies(text, 640, 320), mApplies(text, 640, 320); got != want {
		t.Fatalf("%q: %v, want %v", text, got, want)
	}
}

// holdWritten: a sheet that was read has a text that is read as it (if it is short: a text's form may be longer than the text).
func holdWritten(t *testing.T, s *Sheet) {
	t.Helper()
	text, err := Write(s)
	if err != nil {
		if len(told(s)) < api.MaxText/2 {
			t.Fatalf("%s: %v", told(s), err)
		}
		return
	}
	if back, err := Read(text); err != nil || told(back) != told(s) {
		t.Fatalf("%s is written as %q", told(s), text)
	}
}

// words of which texts are made.
var words = []string{"a", "b", "-", "--", "_", "É", "\x80", "1", ".", "5", ".5", "+", "px", "PX", "%", "(", ")", "(", ")", "[", "]", "{", "}", "{", "}", "{", "}", ";", ";", ":", ":", "!", "important", "!important", "!IMPORTANT", "@", "@media", "@Media", "@x", "#", "\"", "'", "\\", "\n", " ", " ", "/*", "*/", "/**/", "/", "*", ",", "f(", "a:b", "a{", "a{b:c}", "screen", "print", " and ", "(min-width:10px)", "(max-width:10px)", "(min-height:5.016px)", "min-width", "10px", "\x00", "<", "="}

func madeOf(r *rand.Rand, list []string, most int) string {
	text := ""
	for range r.Intn(most) {
		text += list[r.Intn(len(list))]
	}
	return text
}

func TestSecondTelling(t *testing.T) {
	r := rand.New(rand.NewSource(4))
	for range 30000 {
		holdSecond(t, madeOf(r, words, 14))
	}
	for range 1500 {
		holdSecond(t, madeOf(r, words, 120))
	}
}

// TestSecondTellingOfParts: texts of few words, in which these come together more often.
func TestSecondTellingOfParts(t *testing.T) {
	for _, list := range [][]string{
		{"a", "-", "1", ".", "+", "%", "(", "#", "@", "/**/", "/", "*", " ", "'x'", "px", "!"},
		{"'", "\"", "\\", "\n", "a", " ", ";", ":", "{", "}"},
		{"(", ")", "[", "]", "{", "}", "f(", "a", ":", ";", " "},
		{"a{", "}", "b:c", ";", "!", "important", " ", "/**/", "(", ")"},
		{"@media ", "@media", "@x", "x", "{", "}", "a{b:c}", ";", " ", "'\n"},
		{"screen", "print", "all", " ", "and", "(", ")", "min-width", "max-height", ":", "10px", "5px", "-.001px", ",", "(min-width:10px)", " and "},
	} {
		r := rand.New(rand.NewSource(5))
		for range 1500 {
			text := madeOf(r, list, 12)
			holdSecond(t, text)
			holdSecond(t, "a{b:"+text)
			holdSecond(t, "a{b:"+text+"}c{}")
			holdSecond(t, "@media "+text+"{a{b:c}}d{}")
		}
	}
}

// TestAllSmall: all texts of few bytes of some kinds.
func TestAllSmall(t *testing.T) {
	var grow func(text string, left int)
	grow = func(text string, left int) {
		holdSecond(t, text)
		holdSecond(t, "a{b:"+text)
		if left > 0 {
			for _, b := range "a-1.+%(){}'\\\n /*:;!#@" {
				grow(text+string(b), left-1)
			}
		}
	}
	grow("", 3)
}

// TestWriteOfAnything: whatever a sheet says, there is a text that is read as it, or the answer is that there is none.
func TestWriteOfAnything(t *testing.T) {
	r := rand.New(rand.NewSource(6))
	written := 0
	for range 60000 {
		s := &Sheet{}
		for range r.Intn(3) {
			rule := Rule{Head: madeOf(r, words, 4)}
			if r.Intn(2) == 0 {
				rule.Media = madeOf(r, words, 3)
			}
			for range r.Intn(3) {
				rule.Decls = append(rule.Decls, Decl{Name: words[r.Intn(6)], Value: madeOf(r, words, 5), Strong: r.Intn(4) == 0})
			}
			s.Rules = append(s.Rules, rule)
		}
		text, err := Write(s)
		if err == nil {
			written++
			if back, err := Read(text); err != nil || told(back) != told(s) {
				t.Fatalf("%s is written as %q", told(s), text)
			}
			continue
		}
		if text != "" || !errors.Is(err, api.ErrShape) {
			t.Fatalf("%q %v", text, err)
		}
		holdNone(t, s)
	}
	if written < 1000 {
		t.Error(written)
	}
}

// holdNone: a sheet that has no text is not even read from it as it stands.
func holdNone(t *testing.T, s *Sheet) {
	t.Helper()
	text := ""
	for _, r := range s.Rules {
		rule := r.Head + "{"
		for _, d := range r.Decls {
			rule += d.Name + ":" + d.Value
			if d.Strong {
				rule += "!important"
			}
			rule += ";"
		}
		if r.Media != "" {
			rule = "@media " + r.Media + "{" + rule + "}"
		}
		text += rule + "}"
	}
	if back, err := Read(text); err == nil && told(back) == told(s) {
		t.Fatalf("%s has a text: %q", told(s), text)
	}
}

func FuzzRead(f *testing.F) {
	for _, text := range []string{"a{b:c}", "@media x{a{b:'c\\'!important}}", "a/**/b{c:1/**/px", "a{b:f([{ "} {
		f.Add(text)
	}
	f.Fuzz(func(t *testing.T, text string) {
		if len(text) > api.MaxText+1 {
			t.Skip()
		}
		holdSecond(t, text)
	})
}

func FuzzApplies(f *testing.F) {
	f.Add("screen and (min-width: 10px), print", 640, 320)
	f.Add("(max-height:-.001px)", -1, -1)
	f.Fuzz(func(t *testing.T, media string, width, height int) {
		if len(media) > api.MaxText {
			t.Skip()
		}
		if got, want := Applies(media, width, height), mApplies(media, width, height); got != want {
			t.Fatalf("%q of %d, %d: %v, want %v", media, width, height, got, want)
		}
	})
}
