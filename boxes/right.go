package boxes

import (
	"slices"
	"strings"

	"casement/api"
	"casement/cascade"
)

// putRight a box, and all that lies in it ahead of it. apart: it is the root's, or one that shares a row or tracks, and so part of no line.
func (b *Box) putRight(apart bool) {
	shared := b.Kind == api.BFlex || b.Kind == api.BGrid
	for _, kid := range b.Kids {
		kid.putRight(shared)
	}
	if b.becomesBlock(apart) {
		b.Kind = api.BBlock
	}
	switch b.Kind {
	case api.BBlock, api.BAtom:
		b.Kids = regroup(b.Kids, (*Box).isBlock, b.lined)
	case api.BFlex, api.BGrid:
		b.Kids = regroup(b.Kids, (*Box).isNoRun, b.item)
		b.Kids = slices.DeleteFunc(b.Kids, (*Box).isBreak)
	}
}

// becomesBlock: a part of a line can be none.
func (b *Box) becomesBlock(apart bool) bool {
	switch b.Kind {
	case api.BInline:
		return apart || b.isAside() || slices.ContainsFunc(b.Kids, (*Box).isBlock)
	case api.BAtom:
		return apart || b.isAside()
	}
	return false
}

// regroup boxes: those that stand together between such as part them become others.
func regroup(list []*Box, parts func(*Box) bool, become func([]*Box) []*Box) []*Box {
	var out, group []*Box
	for _, b := range list {
		if !parts(b) {
			group = append(group, b)
			continue
		}
		out = append(append(out, become(group)...), b)
		group = nil
	}
	return append(out, become(group)...)
}

// lined: what becomes of kids of a block between two others.
func (b *Box) lined(group []*Box) []*Box {
	if slices.ContainsFunc(group, (*Box).fillsLine) {
		return []*Box{b.nameless(api.BLines, group)}
	}
	return slices.DeleteFunc(group, (*Box).isBlank)
}

// item that runs become which stand together where rows or tracks are shared; nothing, if all are blank.
func (b *Box) item(runs []*Box) []*Box {
	if !slices.ContainsFunc(runs, (*Box).fillsLine) {
		return nil
	}
	block := b.nameless(api.BBlock, nil)
	block.Kids = []*Box{block.nameless(api.BLines, runs)}
	return []*Box{block}
}

// nameless box in a box, which is of no node.
func (b *Box) nameless(kind int, kids []*Box) *Box {
	style := cascade.HandDown(*b.Style)
	return &Box{Kind: kind, Style: &style, Kids: kids}
}

func (b *Box) isNoRun() bool { return b.Kind != api.BRun }

func (b *Box) isBreak() bool { return b.Kind == api.BBreak }

func (b *Box) isBlock() bool {
	return (b.Kind == api.BBlock || b.Kind == api.BFlex || b.Kind == api.BGrid) && !b.isAside()
}

// isAside: a box lies beside the others. (A run or a break has the style of its element, but not its place.)
func (b *Box) isAside() bool {
	if b.Kind == api.BRun || b.Kind == api.BBreak {
		return false
	}
	position := b.Style.V[api.PPosition].Text
	return b.Style.V[api.PFloat].Text != "none" || position == "absolute" || position == "fixed"
}

// isBlank: a run of which nothing may be seen.
func (b *Box) isBlank() bool {
	if b.Kind != api.BRun || strings.Trim(b.Text, "\t\n\f\r ") != "" {
		return false
	}
	space := b.Style.V[api.PSpace].Text
	return space == "normal" || space == "nowrap" || space == "pre-line"
}

// fillsLine: for that box there must be a line.
func (b *Box) fillsLine() bool { return !b.isAside() && !b.isBlank() }
