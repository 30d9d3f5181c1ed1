package frame

import (
	"casement/api"
	"casement/lengths"
	"casement/lines"
)

// reach of a box across: the least and the most that it is to be wide within.
type reach struct{ least, most int }

// fit in a room.
func (r reach) fit(room int) int {
	if r.most <= room {
		return r.most
	}
	return max(room, r.least)
}

// or: the greater ones of both.
func (r reach) or(o reach) reach {
	return reach{max(r.least, o.least), max(r.most, o.most)}
}

// each number as a function makes it.
func (r reach) each(do func(int) int) reach {
	return reach{do(r.least), do(r.most)}
}

// reaches of a part, which are worked out once.
func (p *part) reaches() reach {
	if p.reach == nil {
		r := p.reachWithin()
		p.reach = &r
	}
	return *p.reach
}

// reachAbout: held by bounds that are lengths, with all about. (In no room parts are nothing.)
func (p *part) reachAbout() reach {
	m := p.measure(room{})
	return p.reaches().each(func(n int) int { return m.across.bounded(n) + m.about().across() })
}

func (p *part) reachWithin() reach {
	if wide := p.measure(room{}).across.want; wide.told {
		return reach{wide.n, wide.n}
	}
	switch p.Kind {
	case api.BLines:
		return p.reachOfLines()
	case api.BFlex:
		return p.reachOfItems()
	case api.BGrid:
		return p.reachOfColumns()
	}
	return greatest(p.within)
}

// greatest reach of some parts, but of those that are laid when all else is.
func greatest(list []*part) reach {
	var r reach
	for _, p := range list {
		if !p.waits() {
			r = r.or(p.reachAbout())
		}
	}
	return r
}

func (p *part) reachOfLines() reach {
	var floats []*part
	p.eachAside(func(q *part) { floats = append(floats, q) })
	least := p.widest(0, func(q *part) int { return q.reachAbout().least })
	most := p.widest(api.MaxLen, func(q *part) int { return q.reachAbout().most })
	return greatest(floats).or(reach{least, most})
}

// widest line of a part in such a width, where atoms are as wide as a function says.
func (p *part) widest(width int, wide func(*part) int) int {
	s := p.script(room{}, func(q *part) lines.Item { return lines.Item{W: wide(q)} })
	// Of what is too much for lines there are none.
	list, _ := lines.Lay(lines.Para{Width: width, Size: p.fontSize(), High: p.lineHeight()}, s.items)
	most := 0
	for _, line := range list {
		most = max(most, line.W)
	}
	return most
}

func (p *part) reachOfItems() reach {
	items := p.items()
	if p.isColumn() {
		return greatest(items)
	}
	gaps := lengths.Gaps(len(items), p.gaps(room{}).across)
	r := reach{gaps, gaps}
	for _, q := range items {
		o := q.reachAbout()
		r = reach{r.least + o.least, r.most + o.most}
	}
	return r
}

func (p *part) reachOfColumns() reach {
	t, gap := p.tableOf(), p.gaps(room{}).across
	least := t.columns(-1, gap, func(q *part) int { return q.reachAbout().least })
	most := t.columns(-1, gap, func(q *part) int { return q.reachAbout().most })
	return reach{least.all(), most.all()}
}
