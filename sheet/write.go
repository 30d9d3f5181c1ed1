package sheet

import (
	"slices"
	"strings"

	"casement/tokens"
)

// spell a sheet as shortly as can be, but for what its end might leave out.
func spell(s *Sheet) string {
	var out strings.Builder
	open := "" // the media head whose rules come now
	for _, r := range s.Rules {
		if r.Media != open {
			if open != "" {
				out.WriteString("}")
			}
			if r.Media != "" {
				out.WriteString(mediaHead(r.Media))
			}
			open = r.Media
		}
		spellRule(&out, r)
	}
	if open != "" {
		out.WriteString("}")
	}
	return out.String()
}

// mediaHead: what opens the rules under a head.
func mediaHead(head string) string {
	head = source(head)
	if first := tokens.Cut("@media" + head)[0]; first.Word != "media" {
		return "@media " + head + "{"
	}
	return "@media" + head + "{"
}

func spellRule(out *strings.Builder, r Rule) {
	out.WriteString(source(r.Head) + "{")
	for i, d := range r.Decls {
		if i > 0 {
			out.WriteString(";")
		}
		out.WriteString(d.Name + ":" + source(d.Value))
		if d.Strong {
			out.WriteString("!important")
		}
	}
	out.WriteString("}")
}

// source: a shortest text that has this form, if one has.
func source(form string) string { return tokens.Source(tokens.Cut(form)) }

// leaveOpen: a spelt text without what its end closes by itself. (Blanks ahead of a closing sign are not told without it.)
func leaveOpen(text string) string {
	end := len(text)
	for end > 1 && strings.IndexByte(")]}", text[end-1]) >= 0 && text[end-2] != ' ' {
		end--
	}
	if end > 1 && (text[end-1] == '"' || text[end-1] == '\'') {
		end--
	}
	return text[:end]
}

// Alike: two sheets have the same rules (or there is neither of them).
func Alike(a, b *Sheet) bool {
	if a == nil || b == nil {
		return a == b
	}
	return slices.EqualFunc(a.Rules, b.Rules, func(a, b Rule) bool {
		return a.Media == b.Media && a.Head == b.Head && slices.Equal(a.Decls, b.Decls)
	})
}
