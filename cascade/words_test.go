package cascade

import (
	"math/rand"
	"regexp"
	"slices"
	"strconv"
	"strings"
	"testing"
)

// A second telling of what declarations tell: by patterns, word by word, from the table.

var (
	numberWord  = regexp.MustCompile(`^[+-]?(\d+|\d*\.\d{1,3})(px|em|fr|%|)$`)
	wholeWord   = regexp.MustCompile(`^[+-]?\d+$`)
	nameWord    = regexp.MustCompile(`^(--|-?[a-zA-Z_])[a-zA-Z_0-9-]*$`)
	counterWord = regexp.MustCompile(`^counter\(\s*((--|-?[a-zA-Z_])[a-zA-Z_0-9-]*)\s*\)$`)
	hashWord    = regexp.MustCompile(`^#([0-9a-f]{3}|[0-9a-f]{6})$`)
)

// oneWord: the form of a word, if it is of a kind.
func oneWord(kind, w string) (string, bool) {
	small := strings.ToLower(w)
	switch kind {
	case "STRING":
		if w[0] == '\'' || w[0] == '"' {
			return `"` + strings.Trim(w, `'"`) + `"`, true
		}
		return "", false
	case "COUNTER":
		small = strings.Replace(w, "COUNTER", "counter", 1)
		if m := counterWord.FindStringSubmatch(small); m != nil {
			return "counter(" + m[1] + ")", true
		}
		return "", false
	case "COLOR":
		names := map[string]string{"transparent": "transparent", "black": "#000000", "white": "#ffffff", "red": "#ff0000", "green": "#008000", "blue": "#0000ff", "gray": "#808080", "orange": "#ffa500"}
		if names[small] != "" {
			return names[small], true
		}
		if m := hashWord.FindStringSubmatch(small); m != nil && len(m[1]) == 3 {
			return "#" + strings.Repeat(m[1][:1], 2) + strings.Repeat(m[1][1:2], 2) + strings.Repeat(m[1][2:], 2), true
		} else if m != nil {
			return small, true
		}
		return "", false
	}
	return numberOf(kind, small)
}

func numberOf(kind, w string) (string, bool) {
	m := numberWord.FindStringSubmatch(w)
	if m == nil {
		return "", false
	}
	digits := strings.TrimSuffix(w, m[2])
	n, _ := strconv.ParseFloat(digits, 64)
	signed := kind == "LENGTH" || kind == "EM" || kind == "PART" || kind == "WHOLE"
	if n > 1e6 || n < -1e6 || n < 0 && !signed {
		return "", false
	}
	form := strconv.FormatFloat(n, 'f', -1, 64)
	if n == 0 {
		form = "0"
	}
	switch strings.TrimSuffix(kind, "+") + " " + m[2] {
	case "LENGTH px", "EM em", "PART %", "NUMBER ", "FR fr":
		return form + m[2], true
	case "LENGTH ":
		return "0px", n == 0
	case "WHOLE ":
		return form, wholeWord.MatchString(digits)
	case "WHOLE20 ":
		return form, wholeWord.MatchString(digits) && n >= 1 && n <= 20
	case "WHOLE200 ":
		return form, wholeWord.MatchString(digits) && n >= 1 && n <= 200
	}
	return "", false
}

func (r row) second(words []string) (string, bool) {
	if len(words) == 1 && slices.Contains(r.words, strings.ToLower(words[0])) {
		return strings.ToLower(words[0]), true
	}
	for _, kind := range r.kinds {
		switch kind {
		case "NAMED0", "NAMED1":
			two := append(slices.Clone(words), kind[5:])
			form, ok := numberOf("WHOLE", two[1])
			return words[0] + " " + form, ok && len(words) < 3 && nameWord.MatchString(words[0]) && strings.ToLower(words[0]) != "none"
		case "TRACKS":
			track := row{words: []string{"auto"}, kinds: []string{"LENGTH+", "EM+", "PART+", "FR+"}}
			forms := ""
			for _, w := range words {
				form, ok := track.second([]string{w})
				if !ok {
					return "", false
				}
				forms += " " + form
			}
			return forms[1:], len(words) <= 20
		}
		if form, ok := oneWord(kind, words[0]); ok {
			return form, len(words) == 1
		}
	}
	return "", false
}

var rowsByName = byName(allRows)

func byName(list []row) map[string]row {
	all := map[string]row{}
	for _, r := range list {
		all[r.name] = r
	}
	return all
}

// secondTold: what a declaration of these words tells. (None of them has a var.)
func secondTold(name string, words []string) string {
	all := rowsByName
	one := func(name string, words ...string) string {
		keyword := len(words) == 1 && slices.Contains([]string{"inherit", "initial", "unset"}, strings.ToLower(words[0]))
		if keyword {
			return name + "=" + strings.ToLower(words[0])
		}
		form, ok := all[name].second(words)
		if !ok {
			return "none"
		}
		return name + "=" + form
	}
	alike := len(words) == 1 && slices.Contains([]string{"inherit", "initial", "unset"}, strings.ToLower(words[0]))
	var list []string
	switch {
	case len(words) == 0:
	case name == "margin", name == "padding", name == "border-width", name == "inset":
		for i, side := range []string{"top", "right", "bottom", "left"} {
			long := map[string]string{"margin": "margin-" + side, "padding": "padding-" + side, "border-width": "border-" + side + "-width", "inset": side}[name]
			at := [][]int{{0, 0, 0, 0}, {0, 1, 0, 1}, {0, 1, 2, 1}, {0, 1, 2, 3}}[min(len(words), 4)-1][i]
			list = append(list, one(long, words[at]))
		}
		if len(words) > 4 || len(words) > 1 && strings.Contains(strings.Join(list, ""), "=in") || len(words) > 1 && strings.Contains(strings.Join(list, ""), "=unset") {
			return "none"
		}
	case name == "background":
		list = []string{one("background-color", words...)}
	case name == "gap" && len(words) < 3:
		list = []string{one("row-gap", words[0]), one("column-gap", words[len(words)-1])}
		if len(words) == 2 && strings.Contains(strings.Join(list, ""), "=in") || len(words) == 2 && strings.Contains(strings.Join(list, ""), "=unset") {
			return "none"
		}
	case name == "border" && alike:
		for _, r := range rows()[15:20] {
			list = append(list, one(r.name, words[0]))
		}
	case name == "border" && len(words) < 3:
		width, color := 0, 0
		said := []string{"0px", "currentcolor"}
		for _, w := range words {
			if form, ok := all["border-top-width"].second([]string{w}); ok {
				width++
				said[0] = form
			} else if form, ok := all["border-color"].second([]string{w}); ok {
				color++
				said[1] = form
			} else {
				return "none"
			}
		}
		if width > 1 || color > 1 {
			return "none"
		}
		for _, r := range rows()[15:19] {
			list = append(list, r.name+"="+said[0])
		}
		list = append(list, "border-color="+said[1])
	case name == "flex" && alike:
		list = []string{one("flex-grow", words[0]), one("flex-shrink", words[0]), one("flex-basis", words[0])}
	case name == "flex":
		return secondFlex(words, one)
	case all[name].name != "":
		list = []string{one(name, words...)}
	}
	if len(list) == 0 || slices.Contains(list, "none") {
		return "none"
	}
	return strings.Join(list, ";")
}

func secondFlex(words []string, one func(string, ...string) string) string {
	if len(words) == 1 && strings.ToLower(words[0]) == "none" {
		return "flex-grow=0;flex-shrink=0;flex-basis=auto"
	}
	if len(words) == 1 && strings.ToLower(words[0]) == "auto" {
		return "flex-grow=1;flex-shrink=1;flex-basis=auto"
	}
	if len(words) > 3 {
		return "none"
	}
	bare := regexp.MustCompile(`^[+-]?[\d.]+$`)
	for _, w := range words {
		if slices.Contains([]string{"inherit", "initial", "unset"}, strings.ToLower(w)) {
			return "none"
		}
	}
	shape := ""
	for _, w := range words {
		if bare.MatchString(w) {
			shape += "n"
		} else {
			shape += "b"
		}
	}
	var three []string
	switch shape {
	case "n":
		three = []string{words[0], "1", "0px"}
	case "nn":
		three = []string{words[0], words[1], "0px"}
	case "nb":
		three = []string{words[0], "1", words[1]}
	case "nnb":
		three = words
	default:
		return "none"
	}
	list := []string{one("flex-grow", three[0]), one("flex-shrink", three[1]), one("flex-basis", three[2])}
	if slices.Contains(list, "none") {
		return "none"
	}
	return strings.Join(list, ";")
}

// vocabulary of words.
var vocabulary = strings.Split(`auto|Auto|none|NONE|normal|block|Inline|left|right|both|center|start|stretch|visible|disc|row|wrap|static|sub|pre|transparent|currentcolor|CurrentColor|RED|blue|orange|
#fff|#aBc|#ffff|#123456|#12345G|#0|0|-0|+0|00|0.0|.5|1|-1|+1|2|20|21|200|201|1000000|1000001|-1000000|-1000001|1.5|1.500|1.5000|1.0|007|-.25|
0px|1px|-1px|1.25PX|+.5px|01px|10px|1000000px|1000001px|1.0001px|-0px|0em|1em|-1.5EM|2em|0%|50%|-50%|12.5%|100%|0fr|1fr|-1fr|1.5FR|1pt|1ex|1e3|
x|X|-x|--x|inherit|INITIAL|unset|'a'|"b c"|''|counter(x)|COUNTER( y )|counter()|counter(1)|counter(x y)|counter(a,b)|f(x)|f()|(1px)|[x]|,|)|(|]|!|@a|#|.|1px,|(x|{}|red)`, "|")

func vocabularyOf() []string {
	var list []string
	for _, w := range vocabulary {
		list = append(list, strings.TrimSpace(w))
	}
	return list
}

func allNames() []string {
	var names []string
	for _, r := range rows() {
		names = append(names, r.name)
	}
	return append(names, "margin", "padding", "border-width", "inset", "border", "background", "gap", "flex", "nope")
}

func holdTold(t *testing.T, name, value string, words []string) {
	t.Helper()
	if got, want := told(name, value), secondTold(name, words); got != want {
		t.Fatalf("%s: %q: %s, want %s", name, value, got, want)
	}
}

// TestWordsAreToldTwice: of each property and each word, and of many with more words.
func TestWordsAreToldTwice(t *testing.T) {
	words := vocabularyOf()
	for _, name := range allNames() {
		for _, w := range words {
			holdTold(t, name, " "+w+"\n", []string{w})
		}
	}
	r := rand.New(rand.NewSource(61))
	gaps := []string{" ", "  ", "\n", "\t/* */", "/**/ ", " /* ; */ /**/"}
	for range 30000 {
		name := allNames()[r.Intn(len(allNames()))]
		if r.Intn(2) == 0 {
			name = allNames()[len(rows())+r.Intn(8)]
		}
		value, said := "", []string(nil)
		for i := range r.Intn(6) {
			w := words[r.Intn(len(words))]
			if strings.ContainsAny(w, "([{") && i == 0 {
				continue // what is open may swallow what follows
			}
			if strings.ContainsAny(w, "([{") && !strings.ContainsAny(w, ")]}") {
				continue
			}
			value += gaps[r.Intn(len(gaps))] + w
			said = append(said, w)
		}
		holdTold(t, name, value, said)
	}
}
