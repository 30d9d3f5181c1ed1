package cascade

import (
	"strconv"
	"strings"

	"casement/tokens"
)

// color: the form of a word that is a color.
func (r rule) color(w word) string {
	if r.kinds&aColor == 0 {
		return ""
	}
	if w.Kind == tokens.Hash {
		return hashColor(tokens.Lower(w.Word))
	}
	return namedColor(tokens.Lower(w.Word))
}

func namedColor(name string) string {
	switch name {
	case "transparent":
		return name
	case "black":
		return "#000000"
	case "white":
		return "#ffffff"
	case "red":
		return "#ff0000"
	case "green":
		return "#008000"
	case "blue":
		return "#0000ff"
	case "gray":
		return "#808080"
	case "orange":
		return "#ffa500"
	}
	return ""
}

func hashColor(digits string) string {
	if strings.Trim(digits, "0123456789abcdef") != "" {
		return ""
	}
	switch len(digits) {
	case 3:
		r, g, b := digits[0:1], digits[1:2], digits[2:3]
		return "#" + r + r + g + g + b + b
	case 6:
		return "#" + digits
	}
	return ""
}

// colorNumber of six digits.
func colorNumber(digits string) int {
	n, _ := strconv.ParseInt(digits, 16, 32)
	return int(n)
}
