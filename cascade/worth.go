package cascade

import (
	"strconv"
	"strings"

	"casement/api"
	"casement/tokens"
)

// scale: what values are measured by.
type scale struct {
	size  int // of texts
	color int // of texts
}

// worth of a property's form.
func (s scale) worth(at int, form string) api.Value {
	words := wordsOf(tokens.Cut(form))
	first := words[0]
	switch {
	case at == api.PReset && len(words) == 2, at == api.PStep && len(words) == 2:
		return api.Value{Kind: api.VText, N: s.number(at, words[1]).N / 1000, Text: first.Word}
	case (at == api.PCols || at == api.PRows) && form != "none":
		return api.Value{Kind: api.VTracks, Text: s.tracks(words)}
	case form == "currentcolor":
		return api.Value{Kind: api.VColor, N: s.color}
	case form == "transparent":
		return api.Value{Kind: api.VColor, N: -1}
	case first.Kind == tokens.Hash:
		return api.Value{Kind: api.VColor, N: colorNumber(first.Word)}
	case first.Kind == tokens.String:
		return api.Value{Kind: api.VText, Text: first.Word}
	case first.Kind == tokens.Number, first.Kind == tokens.Part:
		return s.number(at, first)
	}
	return api.Value{Kind: api.VWord, Text: form}
}

// number: the worth of a word that is one.
func (s scale) number(at int, w word) api.Value {
	n, _ := w.Thousandths()
	switch {
	case w.Kind == tokens.Part && (at == api.PSize || at == api.PLine):
		return api.Value{Kind: api.VLength, N: tokens.Share(s.size, n, 100000)}
	case w.Kind == tokens.Part:
		return api.Value{Kind: api.VPart, N: n}
	case w.Unit == "px":
		return api.Value{Kind: api.VLength, N: tokens.Parts(n)}
	case w.Unit == "em":
		return api.Value{Kind: api.VLength, N: tokens.Share(s.size, n, 1000)}
	}
	return api.Value{Kind: api.VNumber, N: n}
}

// tracks, each as a letter and a number.
func (s scale) tracks(words []word) string {
	var list []string
	for _, w := range words {
		list = append(list, s.track(w))
	}
	return strings.Join(list, " ")
}

func (s scale) track(w word) string {
	if w.Kind == tokens.Name {
		return w.Word
	}
	v := s.number(api.PCols, w)
	number := strconv.Itoa(v.N)
	switch v.Kind {
	case api.VLength:
		return "l" + number
	case api.VPart:
		return "p" + number
	}
	return "f" + number
}
