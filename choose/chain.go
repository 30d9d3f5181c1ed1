package choose

import (
	"slices"
	"strings"
)

// chain of compounds, from the left: a complex.
type chain []compound

// compound: what one element must be.
type compound struct {
	joint  string // what stands ahead of it: one of the signs, or one blank; nothing ahead of the first one
	number int    // no other compound of the list, or of a list in it, has it
	parts  []part // none: any element will do
}

func (c compound) text() string {
	if len(c.parts) == 0 {
		return "*"
	}
	var out strings.Builder
	for _, p := range c.parts {
		out.WriteString(p.text())
	}
	return out.String()
}

func (c chain) text() string {
	var out strings.Builder
	for _, one := range c {
		out.WriteString(one.jointText() + one.text())
	}
	return out.String()
}

func (c compound) jointText() string {
	if c.joint == "" || c.joint == " " {
		return c.joint
	}
	return " " + c.joint + " "
}

// textOf a list.
func textOf(list []chain) string {
	var texts []string
	for _, c := range list {
		texts = append(texts, c.text())
	}
	return strings.Join(texts, ", ")
}

func (c chain) weight() [3]int {
	var sum [3]int
	for _, one := range c {
		for _, p := range one.parts {
			for i, n := range p.weight() {
				sum[i] += n
			}
		}
	}
	return sum
}

// greatest weight in a list.
func greatest(list []chain) [3]int {
	var most [3]int
	for _, c := range list {
		if w := c.weight(); slices.Compare(w[:], most[:]) > 0 {
			most = w
		}
	}
	return most
}
