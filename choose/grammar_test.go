package choose

import (
	"errors"
	"math/rand"
	"regexp"
	"strings"
	"testing"

	"casement/api"
	"casement/tokens"
)

// A second telling of the chapter's grammar, made otherwise than the program: all ways to read a text are tried, and the fault is where the farthest of them ends.

// spot: how far a way has come.
type spot struct {
	at, compounds, deep int
	has                 bool
	said                string // the form so far
}

// then: how a way goes on.
type then func(spot) bool

type grammar struct {
	text string
	list []tokens.Token
	// Of the farthest end of a way: where, and whether it was too much there rather than wrong.
	far   int
	bound bool
}

func (g *grammar) place(at int) int {
	if at < len(g.list) {
		return g.list[at].From
	}
	return len(g.text)
}

func (g *grammar) stuck(place int, bound bool) bool {
	if place > g.far {
		g.far, g.bound = place, bound
	} else if place == g.far {
		g.bound = g.bound || bound
	}
	return false
}

// step over one token that is so, saying something for it.
func (g *grammar) step(s spot, is func(tokens.Token) bool, said func(tokens.Token) string, next then) bool {
	if s.at >= len(g.list) || !is(g.list[s.at]) {
		return g.stuck(g.place(s.at), false)
	}
	if said != nil {
		s.said += said(g.list[s.at])
	}
	s.at++
	return next(s)
}

func ofKind(kind int) func(tokens.Token) bool {
	return func(t tokens.Token) bool { return t.Kind == kind }
}

func (g *grammar) sign(s spot, sign, said string, next then) bool {
	return g.step(s, func(t tokens.Token) bool { return t.Is(sign) }, func(tokens.Token) string { return said }, next)
}

// near: no comment stands ahead of the next token.
func (g *grammar) near(s spot, next then) bool {
	if s.at < len(g.list) && g.list[s.at].From != g.list[s.at-1].To {
		return g.stuck(g.place(s.at), false)
	}
	return next(s)
}

// gap: any number of blanks.
func (g *grammar) gap(s spot, next then) bool {
	for s.at < len(g.list) && g.list[s.at].Kind == tokens.Blanks {
		s.at++
	}
	return next(s)
}

func (g *grammar) selectors(s spot, next then) bool {
	return g.gap(s, func(s spot) bool {
		return g.complex(s, func(s spot) bool {
			return g.gap(s, func(s spot) bool {
				return g.sign(s, ",", ", ", func(s spot) bool { return g.selectors(s, next) }) || next(s)
			})
		})
	})
}

func (g *grammar) complex(s spot, next then) bool {
	return g.compound(s, func(s spot) bool {
		again := func(s spot) bool { return g.complex(s, next) }
		for _, sign := range []string{">", "+", "~"} {
			ok := g.gap(s, func(s spot) bool {
				return g.sign(s, sign, " "+sign+" ", func(s spot) bool { return g.gap(s, again) })
			})
			if ok {
				return true
			}
		}
		apart := g.step(s, ofKind(tokens.Blanks), func(tokens.Token) string { return " " }, func(s spot) bool { return g.gap(s, again) })
		return apart || next(s)
	})
}

func (g *grammar) compound(s spot, next then) bool {
	if s.at < len(g.list) {
		t := g.list[s.at]
		if strings.ContainsRune("*.[:", rune(g.text[t.From])) && t.Kind == tokens.Sign || t.Kind == tokens.Name || t.Kind == tokens.Hash {
			s.compounds++
			if s.compounds > api.MaxItems {
				return g.stuck(t.From, true)
			}
		}
	}
	named := g.step(s, ofKind(tokens.Name), small, func(s spot) bool { return g.simples(s, next) })
	any := g.sign(s, "*", "*", func(s spot) bool {
		bare := s
		bare.said = strings.TrimSuffix(s.said, "*")
		return g.near(bare, func(s spot) bool { return g.simple(s, func(s spot) bool { return g.simples(s, next) }) }) || next(s)
	})
	return named || any || g.simple(s, func(s spot) bool { return g.simples(s, next) })
}

func (g *grammar) simples(s spot, next then) bool {
	more := g.near(s, func(s spot) bool {
		return g.simple(s, func(s spot) bool { return g.simples(s, next) })
	})
	return more || next(s)
}

var (
	aState   = regexp.MustCompile(`^(root|empty|first-child|last-child|only-child|first-of-type|last-of-type|hover|focus)$`)
	aNth     = regexp.MustCompile(`^(nth-child|nth-last-child|nth-of-type)$`)
	aList    = regexp.MustCompile(`^(not|is|has)$`)
	aCapital = regexp.MustCompile(`[A-Z]`)
	ops      = []string{"=", "~=", "|=", "^=", "$=", "*="}
)

// small: a token's word, with letters from A to Z alone made small.
func small(t tokens.Token) string {
	return aCapital.ReplaceAllStringFunc(t.Word, strings.ToLower)
}

func (g *grammar) simple(s spot, next then) bool {
	if g.step(s, ofKind(tokens.Hash), func(t tokens.Token) string { return "#" + t.Word }, next) {
		return true
	}
	class := g.sign(s, ".", ".", func(s spot) bool {
		return g.near(s, func(s spot) bool {
			return g.step(s, ofKind(tokens.Name), func(t tokens.Token) string { return t.Word }, next)
		})
	})
	if class {
		return true
	}
	attribute := g.sign(s, "[", "[", func(s spot) bool {
		return g.gap(s, func(s spot) bool {
			return g.step(s, ofKind(tokens.Name), small, func(s spot) bool {
				return g.gap(s, func(s spot) bool { return g.sign(s, "]", "]", next) || g.value(s, next) })
			})
		})
	})
	return attribute || g.sign(s, ":", ":", func(s spot) bool {
		return g.near(s, func(s spot) bool { return g.state(s, next) || g.nth(s, next) || g.nested(s, next) })
	})
}

func (g *grammar) value(s spot, next then) bool {
	for _, op := range ops {
		behind := func(s spot) bool {
			return g.gap(s, func(s spot) bool {
				word := func(t tokens.Token) bool { return t.Kind == tokens.Name || t.Kind == tokens.String }
				quoted := func(t tokens.Token) string {
					return `"` + strings.ReplaceAll(strings.ReplaceAll(t.Word, `\`, `\\`), `"`, `\"`) + `"`
				}
				return g.step(s, word, quoted, func(s spot) bool {
					return g.gap(s, func(s spot) bool { return g.sign(s, "]", "]", next) })
				})
			})
		}
		ok := g.sign(s, op[:1], op[:1], func(s spot) bool {
			if len(op) == 1 {
				return behind(s)
			}
			return g.near(s, func(s spot) bool { return g.sign(s, op[1:], op[1:], behind) })
		})
		if ok {
			return true
		}
	}
	return false
}

func (g *grammar) state(s spot, next then) bool {
	is := func(t tokens.Token) bool { return t.Kind == tokens.Name && aState.MatchString(small(t)) }
	return g.step(s, is, small, next)
}

// Formulas, with the parts of which their form is made.
var (
	aNumber = regexp.MustCompile(`^[\t\n\f\r ]*([+-]?)0*([0-9]+)[\t\n\f\r ]*$`)
	aStep   = regexp.MustCompile(`^[\t\n\f\r ]*([+-]?)0*([0-9]*)[nN](?:[\t\n\f\r ]*([+-])[\t\n\f\r ]*0*([0-9]+))?[\t\n\f\r ]*$`)
	aWord   = regexp.MustCompile(`^[\t\n\f\r ]*(?:([oO][dD][dD])|[eE][vV][eE][nN])[\t\n\f\r ]*$`)
	tooBig  = regexp.MustCompile(`^(1[0-9]{6}|[2-9][0-9]{6}|[0-9]{8,})$`)
)

func big(digits string) bool { return digits != "1000000" && tooBig.MatchString(digits) }

func withSign(sign, digits, plus string) string {
	if digits == "0" || digits == "" || sign != "-" {
		sign = plus
	}
	if digits == "" {
		digits = "0"
	}
	return sign + digits
}

// formulaForm: the form of a formula; empty: it is none.
func formulaForm(text string) string {
	if m := aWord.FindStringSubmatch(text); m != nil {
		if m[1] != "" {
			return "2n+1"
		}
		return "2n+0"
	}
	if m := aNumber.FindStringSubmatch(text); m != nil && !big(m[2]) {
		return "0n" + withSign(m[1], m[2], "+")
	}
	if m := aStep.FindStringSubmatch(text); m != nil && !big(m[2]) && !big(m[4]) {
		a := m[2]
		if a == "" && !strings.Contains(text[:strings.IndexAny(text, "nN")], "0") {
			a = "1"
		}
		return withSign(m[1], a, "") + "n" + withSign(m[3], m[4], "+")
	}
	return ""
}

func (g *grammar) nth(s spot, next then) bool {
	is := func(t tokens.Token) bool { return t.Kind == tokens.Function && aNth.MatchString(small(t)) }
	return g.step(s, is, func(t tokens.Token) string { return small(t) + "(" }, func(s spot) bool {
		from := g.list[s.at-1].To
		size := strings.IndexByte(g.text[from:], ')')
		if size < 0 {
			return g.stuck(len(g.text), false)
		}
		form := formulaForm(g.text[from : from+size])
		if form == "" {
			return g.stuck(from, false)
		}
		s.said += form
		for g.list[s.at].From < from+size {
			s.at++
		}
		return g.sign(s, ")", ")", next)
	})
}

func (g *grammar) nested(s spot, next then) bool {
	is := func(t tokens.Token) bool {
		return t.Kind == tokens.Function && aList.MatchString(small(t)) && !(s.has && small(t) == "has")
	}
	return g.step(s, is, func(t tokens.Token) string { return small(t) + "(" }, func(in spot) bool {
		if in.deep++; in.deep > api.MaxDeep {
			return g.stuck(g.list[s.at].From, true)
		}
		in.has = s.has || small(g.list[s.at]) == "has"
		return g.selectors(in, func(in spot) bool {
			return g.sign(in, ")", ")", func(out spot) bool {
				out.deep, out.has = s.deep, s.has
				return next(out)
			})
		})
	})
}

// secondReading of a text: its form, or its fault.
func secondReading(text string) (string, *api.Fault) {
	g := &grammar{text: text, list: tokens.Cut(text), far: -1}
	form := ""
	ok := g.selectors(spot{}, func(s spot) bool {
		form = s.said
		return s.at == len(g.list) || g.stuck(g.place(s.at), false)
	})
	if ok {
		return form, nil
	}
	if g.bound {
		return "", &api.Fault{At: g.far, Err: api.ErrBound}
	}
	return "", &api.Fault{At: g.far, Err: api.ErrText}
}

// holdReading: a text is read as the second telling reads it, and its form as itself.
func holdReading(t *testing.T, text string) {
	t.Helper()
	l, err := Read(text)
	form, fault := secondReading(text)
	if fault != nil {
		var f *api.Fault
		if l != nil || !errors.As(err, &f) || f.Err != fault.Err || f.At != fault.At {
			t.Errorf("%q: %v %+v, want %v at %d", text, err, f, fault.Err, fault.At)
		}
		return
	}
	if err != nil || l.Text() != form {
		t.Errorf("%q: %v %q, want %q", text, err, l.Text(), form)
		return
	}
	again, err := Read(form)
	if len(form) > api.MaxText {
		return
	}
	if err != nil || again.Text() != form || again.Size() != l.Size() {
		t.Errorf("%q: the form %q is not read as itself: %v", text, form, err)
		return
	}
	for i := range l.Size() {
		if l.Weight(i) != again.Weight(i) {
			t.Errorf("%q: the form %q has other weights", text, form)
		}
	}
}

// bits of texts that meet in all ways.
var bits = []string{
	"a", "B", "*", ".", "#c", "[", "]", ":", "not(", "Has(", "nth-child(", "2n", "3", ")", ",", ">", "+", "-", " ", "/**/", "~", "=", "'d'", "HOVER", "\"\n",
}

func TestSmallTextsAreReadTwice(t *testing.T) {
	var grow func(text string, more int)
	grow = func(text string, more int) {
		holdReading(t, text)
		if more == 0 || t.Failed() {
			return
		}
		for _, b := range bits {
			grow(text+b, more-1)
		}
	}
	grow("", 3)
}

// pieces of texts that are lists more often than not.
var pieces = []string{
	"a", "B9", "*", ".c", "#d", "[e]", "[ F = g ]", "[h~='i\"']", "[j|=k]", "[a^=b", "]", ":root", ":First-Child", ":hover", ":nth-child(", ":NTH-of-type(", "odd", "Even", "2n + 1", "-n-3", "+4", "1000001", "007n+0", "-0",
	":not(", ":is(", ":has(", ")", ")", ")", ")", ",", " , ", " ", " > ", "+", "~ ", "/**/", "'", "\n", ":", "(",
}

func TestLongerTextsAreReadTwice(t *testing.T) {
	r := rand.New(rand.NewSource(5))
	for range 60000 {
		text := ""
		for range r.Intn(14) {
			text += pieces[r.Intn(len(pieces))]
		}
		holdReading(t, text)
		if t.Failed() {
			return
		}
	}
}

func TestFormulasAreReadTwice(t *testing.T) {
	signs := []string{"", "+", "-", " ", "1", "00", "n", "N", "odd", "1000000", "x"}
	var grow func(text string, more int)
	grow = func(text string, more int) {
		holdReading(t, ":nth-child("+text+")")
		if more == 0 || t.Failed() {
			return
		}
		for _, s := range signs {
			grow(text+s, more-1)
		}
	}
	grow("", 4)
}

func FuzzRead(f *testing.F) {
	for _, p := range pieces {
		f.Add(p + "a" + p)
	}
	f.Add("a > .b:nth-child(2n + 1), #c:not(:has(d, e ~ f) [g$='h']) *")
	f.Fuzz(func(t *testing.T, text string) {
		if len(text) <= 200 {
			holdReading(t, text)
		}
	})
}
