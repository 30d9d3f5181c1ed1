package boxes

import (
	"strconv"
	"strings"

	"casement/api"
	"casement/cascade"
)

// listItem is the name of the counter that items of lists count by themselves.
const listItem = "list-item"

// counters: the numbers that names have; of others it is 0.
type counters map[string]int

// count what an element says of them.
func (c counters) count(style *cascade.Style) {
	if reset := style.V[api.PReset]; reset.Kind == api.VText {
		c[reset.Text] = reset.N
	}
	if step := style.V[api.PStep]; step.Kind == api.VText {
		c.add(step.Text, step.N)
	}
	if isItem(style) {
		c.add(listItem, 1)
	}
}

func (c counters) add(name string, n int) {
	c[name] = min(max(c[name]+n, -api.MaxNum), api.MaxNum)
}

func isItem(style *cascade.Style) bool { return style.V[api.PDisplay].Text == "list-item" }

// marker of an element; empty: it has none.
func (c counters) marker(style *cascade.Style) string {
	if !isItem(style) {
		return ""
	}
	switch style.V[api.PMarker].Text {
	case "disc":
		return "\u2022 "
	case "decimal":
		return strconv.Itoa(c[listItem]) + ". "
	case "lower-alpha":
		return letters(c[listItem]) + ". "
	}
	return ""
}

// letters: a number as letters, where it has such.
func letters(n int) string {
	if n < 1 {
		return strconv.Itoa(n)
	}
	text := ""
	// There is no letter for nothing: so the last one of n stands for one of 1 to 26.
	for ; n > 0; n = (n - 1) / 26 {
		text = string(rune('a'+(n-1)%26)) + text
	}
	return text
}

// content of an element; false: it has none.
func (c counters) content(style *cascade.Style) (string, bool) {
	v := style.V[api.PContent]
	if v.Kind == api.VText {
		return v.Text, true
	}
	name, ok := strings.CutPrefix(v.Text, "counter(")
	if !ok {
		return "", false
	}
	return strconv.Itoa(c[strings.TrimSuffix(name, ")")]), true
}
