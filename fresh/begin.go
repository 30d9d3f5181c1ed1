package fresh

import (
	"casement/api"
	"casement/cascade"
	"casement/markup"
	"casement/sheet"
)

// maxSide: pixels of a page's side.
const maxSide = 4096

// sideOf a page, as it counts.
func sideOf(n int) int { return min(max(n, 0), maxSide) }

// read a page's tree and its sheets.
func (p *Page) read(text string, sheets []string) error {
	t, err := markup.Read(text)
	if err != nil {
		return err
	}
	p.tree = t
	for _, text := range sheets {
		s, err := sheet.Read(text)
		if err != nil {
			return err
		}
		p.sheets = append(p.sheets, s)
	}
	return nil
}

// begin anew: rules apply now that did not, or the other way round.
func (p *Page) begin() {
	sources := make([]cascade.Source, len(p.sheets))
	for k, s := range p.sheets {
		sources[k] = cascade.Source{Sheet: s, Base: k == 0}
	}
	wide, high := p.parts()
	closet := cascade.NewCloset(p.tree, sources, cascade.View{Width: wide, Height: high})
	p.kept = kept{asked: askedBy(p.sheets), changed: true, closet: closet, work: p.work}
}

// applying: of each rule whether it applies to a page of that size.
func (p *Page) applying() []bool {
	var list []bool
	wide, high := p.parts()
	for _, s := range p.sheets {
		for _, r := range s.Rules {
			list = append(list, sheet.Applies(r.Media, wide, high))
		}
	}
	return list
}

// parts of a pixel that the page is wide and high.
func (p *Page) parts() (wide, high int) { return p.width * api.Unit, p.height * api.Unit }
