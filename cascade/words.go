package cascade

import (
	"slices"
	"strconv"
	"strings"

	"casement/api"
	"casement/tokens"
)

// word of a value: one token, or a function with what lies in it.
type word struct {
	tokens.Token
	within []tokens.Token // without blanks at its ends
}

// wordsOf a value; nothing, if something in it is no word.
func wordsOf(list []tokens.Token) []word {
	var words []word
	partners := tokens.Partners(list)
	for at := 0; at < len(list); at++ {
		t := list[at]
		if t.Kind == tokens.Blanks {
			continue
		}
		w := word{Token: t}
		if t.Kind == tokens.Function {
			end := partners[at]
			w.within = tokens.Trim(list[at+1 : end])
			at = end
		}
		if at+1 < len(list) && list[at+1].Kind != tokens.Blanks {
			return nil
		}
		words = append(words, w)
	}
	return words
}

// oneOf: a word is one of some, which are parted by blanks.
func (w word) oneOf(words string) bool {
	return w.Kind == tokens.Name && slices.Contains(strings.Fields(words), tokens.Lower(w.Word))
}

// read: the form of what a property is told to be; empty, if it may not be so.
func (r rule) read(words []word) string {
	if len(words) == 0 {
		return ""
	}
	if form := r.one(words[0]); form != "" {
		if len(words) > 1 {
			return ""
		}
		return form
	}
	switch {
	case r.kinds&aNamed != 0:
		return r.named(words)
	case r.kinds&aTracks != 0:
		return tracks(words)
	}
	return ""
}

// one: the form of a word that is a value alone.
func (r rule) one(w word) string {
	switch w.Kind {
	case tokens.Name:
		if w.oneOf(r.words) {
			return tokens.Lower(w.Word)
		}
		return r.color(w)
	case tokens.Hash:
		return r.color(w)
	case tokens.Number, tokens.Part:
		return r.number(w)
	case tokens.String:
		if r.kinds&aText != 0 {
			return w.Text()
		}
	case tokens.Function:
		if r.kinds&aCounter != 0 && w.isCounter() {
			return "counter(" + w.within[0].Word + ")"
		}
	}
	return ""
}

func (w word) isCounter() bool {
	return w.Called(tokens.Function, "counter") && len(w.within) == 1 && w.within[0].Kind == tokens.Name
}

func (r rule) number(w word) string {
	n, ok := w.Thousandths()
	if !ok || n < 0 && r.kinds&below == 0 {
		return ""
	}
	form := decimal(n)
	switch {
	case r.kinds&aPart != 0 && w.Kind == tokens.Part:
		return form + "%"
	case r.kinds&aLength != 0 && (w.Unit == "px" || w.bare() && n == 0):
		return form + "px"
	case r.kinds&anEm != 0 && w.Unit == "em", r.kinds&aShare != 0 && w.Unit == "fr":
		return form + w.Unit
	case r.kinds&aNumber != 0 && w.bare(), r.kinds&aWhole != 0 && w.bare() && r.whole(w, n):
		return form
	}
	return ""
}

// bare: a word is a number without a unit.
func (w word) bare() bool { return w.Kind == tokens.Number && w.Unit == "" }

// whole: a number has no point, and is not out of its bounds.
func (r rule) whole(w word, n int) bool {
	return !strings.Contains(w.Word, ".") && (r.most == 0 || n > 0 && n <= r.most*1000)
}

// named: a name, and its number.
func (r rule) named(words []word) string {
	if words[0].Kind != tokens.Name || len(words) > 2 {
		return ""
	}
	number := strconv.Itoa(r.other)
	if len(words) == 2 {
		number = rule{kinds: aWhole | below}.one(words[1])
	}
	if number == "" {
		return ""
	}
	return words[0].Word + " " + number
}

func tracks(words []word) string {
	if len(words) > api.MaxSpan {
		return ""
	}
	var forms []string
	for _, w := range words {
		form := rule{words: "auto", kinds: aSize | aShare}.one(w)
		if form == "" {
			return ""
		}
		forms = append(forms, form)
	}
	return strings.Join(forms, " ")
}

// decimal: so many thousandths as a number.
func decimal(thousandths int) string {
	sign := ""
	if thousandths < 0 {
		sign, thousandths = "-", -thousandths
	}
	behind := strconv.Itoa(1000 + thousandths%1000)[1:]
	return sign + strings.TrimRight(strings.TrimRight(strconv.Itoa(thousandths/1000)+"."+behind, "0"), ".")
}
