package flex

import (
	"casement/api"
	"casement/lengths"
)

// Ways in which things are spread.
const (
	_ = iota // from the start on
	atEnd
	atCenter
	between
	around
	evenly
)

// Spread things: where each begins.
func Spread(l []int, room, gap, how int) []int {
	lengths.Hold(&room, &gap)
	l = lengths.Firsts(l, api.MaxItems)
	left := room - lengths.Gaps(len(l), gap)
	var places []int
	at := 0
	for _, w := range l {
		lengths.Hold(&w)
		places = append(places, at)
		at += w + gap
		left -= w
	}
	for k := range places {
		places[k] += later(left, k, len(l), how)
	}
	return places
}

// later by so much than from the start on: the k-th of n things, if so much is left.
func later(left, k, n, how int) int {
	switch how {
	case atEnd:
		return left
	case atCenter:
		return half(left)
	}
	if left < 0 {
		return 0
	}
	switch how {
	case between:
		return left * k / max(n-1, 1)
	case around:
		return left * (2*k + 1) / (2 * n)
	case evenly:
		return left * (k + 1) / (n + 1)
	}
	return 0
}

// half of a number; shifted, not divided, since it is rounded down below 0, too.
func half(n int) int {
	return n >> 1
}

// Stand: where a thing begins across.
func Stand(size, room, how int) int {
	lengths.Hold(&size, &room)
	switch how {
	case atEnd:
		return room - size
	case atCenter:
		return half(room - size)
	}
	return 0
}
