package frame

import (
	"slices"

	"casement/api"
	"casement/lengths"
)

// size that may be told; if it is not, it is 0.
type size struct {
	n    int
	told bool
}

func told(n int) size { return size{n, true} }

// less by so much, but not below 0.
func (s size) less(n int) size {
	if !s.told {
		return s
	}
	return told(max(s.n-n, 0))
}

// orBelow0: the number, or one that says that there is none.
func (s size) orBelow0() int {
	if !s.told {
		return -1
	}
	return s.n
}

// room that a box is laid in: its containing width and height.
type room struct{ wide, high size }

// lengthOf a value; not told: it is a word, or part of what is not told.
func lengthOf(v api.Value, of size) size {
	switch {
	case v.Kind == api.VLength:
		return told(v.N)
	case v.Kind == api.VPart && of.told:
		return told(partOfLength(of.n, v.N))
	}
	return size{}
}

// partOfLength: so many thousandths of a hundredth of it.
func partOfLength(of, n int) int {
	lengths.Hold(&of)
	part := lengths.Over(of*n, 100000)
	lengths.Hold(&part)
	return part
}

// says: whether a property is that word.
func (p *part) says(at int, word string) bool { return p.Style.V[at].Text == word }

// pick: the number of a property's word among some.
func (p *part) pick(at int, words ...string) int {
	return slices.Index(words, p.Style.V[at].Text)
}

// whole number that a property tells; 0: it tells none.
func (p *part) whole(at int) int { return p.Style.V[at].N / 1000 }

// fontSize of a part's texts.
func (p *part) fontSize() int { return p.Style.V[api.PSize].N }

// lineHeight of a part's texts, as package lines has it.
func (p *part) lineHeight() int {
	v := p.Style.V[api.PLine]
	switch v.Kind {
	case api.VLength:
		return v.N
	case api.VNumber:
		return p.fontSize() * v.N / 1000
	}
	return -1
}

// mode of a part's texts, as package lines has it.
func (p *part) mode() int {
	return p.pick(api.PSpace, "normal", "nowrap", "pre", "pre-wrap", "pre-line")
}

// rise of a part above what stands around it.
func (p *part) rise() int {
	v := p.Style.V[api.PRise]
	switch {
	case v.Text == "sub":
		return -(p.fontSize() / 5)
	case v.Text == "super":
		return p.fontSize() / 3
	}
	return v.N
}

// rises of a part of a line and of those around it, together; of what is none: 0.
func (p *part) rises() int {
	sum := 0
	for ; p.Kind == api.BInline; p = p.around {
		sum += p.rise()
	}
	return sum
}
