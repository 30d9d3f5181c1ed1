package grid

import (
	"cmp"
	"slices"

	"casement/api"
	"casement/lengths"
)

// Kinds of tracks.
const (
	auto = iota
	fixed
	part
	share
)

// Tracks: how wide each is.
func Tracks(l []Track, needs []Need, room, gap int) []int {
	lengths.Hold(&room, &gap)
	needs = needsOf(needs)
	b := bandOf(tracksOf(l, needs, room), room, gap)
	for _, n := range needs {
		b.widen(n)
	}
	b.deal(room)
	return b.sizes
}

// needsOf a list: those that are there, as they count, in the order of their spans.
func needsOf(l []Need) []Need {
	var needs []Need
	for _, n := range l {
		if n.From < 1 || n.From > api.MaxItems || n.Span < 1 || n.Span > api.MaxSpan {
			continue
		}
		lengths.Hold(&n.Size)
		needs = append(needs, n)
	}
	slices.SortStableFunc(needs, func(a, b Need) int { return cmp.Compare(a.Span, b.Span) })
	return needs
}

// tracksOf a list: those that count, as they count, and as many more as needs reach to.
func tracksOf(l []Track, needs []Need, room int) []Track {
	var tracks []Track
	for _, t := range lengths.Firsts(l, api.MaxSpan) {
		tracks = append(tracks, t.counted(room))
	}
	for _, n := range needs {
		for len(tracks) < n.From+n.Span-1 {
			tracks = append(tracks, Track{})
		}
	}
	return tracks
}

// counted: a track with its kind and number as they count; without a room nothing is part of it.
func (t Track) counted(room int) Track {
	switch t.Kind {
	case fixed:
		lengths.Hold(&t.N)
		return Track{fixed, max(t.N, 0)}
	case part, share:
		if room >= 0 {
			return Track{t.Kind, lengths.Factor(t.N)}
		}
	}
	return Track{}
}

// band of tracks, and how wide each is so far.
type band struct {
	tracks []Track
	sizes  []int
	gap    int
}

// bandOf tracks, of which those are as wide as they will be that tell it themselves.
func bandOf(tracks []Track, room, gap int) *band {
	b := &band{tracks, make([]int, len(tracks)), gap}
	for at, t := range tracks {
		switch t.Kind {
		case fixed:
			b.sizes[at] = t.N
		case part:
			b.sizes[at] = room * t.N / 100000
		}
	}
	return b
}

// widen the auto tracks of a need by what it misses. Needs of one track are met by the same rule, since they come first: of these a track then has the greatest.
func (b *band) widen(n Need) {
	missing := n.Size - lengths.Gaps(n.Span, b.gap)
	var open []int
	for at := n.From - 1; at < n.From-1+n.Span; at++ {
		switch b.tracks[at].Kind {
		case auto:
			open = append(open, at)
		case share:
			return
		}
		missing -= b.sizes[at]
	}
	if missing <= 0 {
		return
	}
	for k, at := range open {
		b.sizes[at] += missing*(k+1)/len(open) - missing*k/len(open)
	}
}

// deal out among the shares what the other tracks leave of the room; factors of less than 1 together do not take all of it.
func (b *band) deal(room int) {
	left := room - lengths.Gaps(len(b.sizes), b.gap)
	var open, factors []int
	for at, t := range b.tracks {
		left -= b.sizes[at]
		if t.Kind == share {
			open = append(open, at)
			factors = append(factors, t.N)
		}
	}
	for k, n := range lengths.Shares(max(left, 0), factors, 1000) {
		b.sizes[open[k]] = n
	}
}
