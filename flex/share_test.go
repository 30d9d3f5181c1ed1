package flex

import (
	"math"
	"slices"
	"testing"

	"casement/api"
)

type shareCase struct {
	l         []Item
	room, gap int
	want      []int
}

func wantShares(t *testing.T, l []shareCase) {
	t.Helper()
	for _, c := range l {
		if got := Share(c.l, c.room, c.gap); !slices.Equal(got, c.want) {
			t.Errorf("%+v shares %d, gap %d: %v, want %v", c.l, c.room, c.gap, got, c.want)
		}
	}
}

// P101: what is free is added by factors, each share reaching from where the one ahead ends.
func TestShareGrow(t *testing.T) {
	wantShares(t, []shareCase{
		{nil, 100, 5, nil},
		{[]Item{}, -100, 5, nil},
		{[]Item{item(0, 1000, 0)}, 10, 7, []int{10}},
		{[]Item{item(0, 1000, 0), item(0, 1000, 0), item(0, 1000, 0)}, 10, 0, []int{3, 3, 4}},
		{[]Item{item(0, 1000, 0), item(0, 1000, 0), item(0, 1000, 0)}, 11, 0, []int{3, 4, 4}},
		{[]Item{item(0, 1000, 0), item(0, 1000, 0), item(0, 1000, 0)}, 2, 0, []int{0, 1, 1}},
		{[]Item{item(5, 1000, 0), item(20, 1000, 0)}, 100, 0, []int{42, 58}}, // 37 and 38 more, not by Bases
		{[]Item{item(5, 1000, 0), item(20, 4000, 0)}, 100, 0, []int{20, 80}},
		{[]Item{item(5, 0, 0), item(20, 1, 0)}, 1025, 0, []int{5, 21}},
		{[]Item{item(5, 0, 9000), item(20, 3000, 9000), item(7, 0, 0)}, 100, 0, []int{5, 88, 7}},
		{[]Item{item(5, 1000, 0), item(20, 1000, 0)}, 100, 15, []int{35, 50}},
		{[]Item{item(5, 1000, 0), item(20, 1000, 0)}, 100, -15, []int{50, 65}},
		{[]Item{about(5, 30), {Base: 20, Max: -1, Around: 15, Grow: 1000}}, 100, 2, []int{5, 48}},
		{[]Item{about(5, -30), {Base: 20, Max: -1, Around: -15, Grow: 1000}}, 100, 2, []int{5, 138}},
	})
}

// P101: what is missing is taken by factors times Bases; rounded down below 0, too.
func TestShareShrink(t *testing.T) {
	wantShares(t, []shareCase{
		{[]Item{item(100, 0, 1000), item(300, 0, 1000)}, 200, 0, []int{50, 150}},
		{[]Item{item(100, 0, 3000), item(300, 0, 1000)}, 200, 0, []int{0, 200}},
		{[]Item{item(100, 9000, 0), item(300, 9000, 1000)}, 200, 0, []int{100, 100}},
		{[]Item{item(10, 0, 1000), item(10, 0, 1000)}, 17, 0, []int{8, 9}}, // -1.5 is -2
		{[]Item{item(10, 0, 1000), item(10, 0, 1000), item(10, 0, 1000)}, 20, 0, []int{6, 7, 7}},
		{[]Item{item(100, 0, 1000), item(100, 0, 1000)}, 150, 10, []int{70, 70}},
		{[]Item{{Base: 100, Max: -1, Around: 20, Shrink: 1000}, item(100, 0, 1000)}, 150, 10, []int{60, 60}},
		{[]Item{{Base: 100, Max: -1, Around: -20, Shrink: 1000}, item(100, 0, 1000)}, 150, 0, []int{85, 85}},
		{[]Item{item(100, 0, 1000), item(100, 0, 1000)}, 0, 0, []int{0, 0}},
		{[]Item{item(100, 0, 1000), item(50, 0, 1000)}, -60, 0, []int{0, 0}},
		{[]Item{item(100, 0, 0), item(50, 0, 0)}, 10, 0, []int{100, 50}},
		{[]Item{about(0, 50), {Max: -1, Shrink: 1000}}, 10, 0, []int{0, 0}}, // factors times Bases are 0
		{[]Item{{Max: -1, Around: 50, Shrink: 1000}, item(10, 0, 1000)}, 55, 0, []int{0, 5}},
	})
}

// P101: with wants and gaps exactly as wide as the room they shrink, by nothing.
func TestShareExact(t *testing.T) {
	wantShares(t, []shareCase{
		{[]Item{item(40, 1000, 1000), item(50, 1000, 1000)}, 100, 10, []int{40, 50}},
		{[]Item{item(40, 1000, 1000), item(50, 1000, 1000)}, 101, 10, []int{40, 51}},
		{[]Item{item(40, 1000, 1000), item(50, 1000, 1000)}, 99, 10, []int{39, 50}},
		// 100 within bounds: the first one shrinks to where it is held, the second one is settled
		{[]Item{{Base: 100, Max: 50, Grow: 1000, Shrink: 1000}, {Min: 50, Max: -1, Grow: 1000, Shrink: 1000}}, 100, 0, []int{50, 50}},
		// one that grows would be settled at 60, and the other one would have 30; it shrinks, and the other one is settled
		{[]Item{{Base: 80, Max: 60, Shrink: 1000}, {Base: 0, Min: 30, Max: -1, Grow: 1000}}, 90, 0, []int{60, 30}},
	})
}

// P101: settled at once are those whose bounds lead the other way, at their Base within bounds.
func TestShareSettled(t *testing.T) {
	wantShares(t, []shareCase{
		{[]Item{grows(100, 0, 40), grows(0, 0, -1)}, 100, 0, []int{40, 60}},
		{[]Item{grows(100, 0, 40), grows(30, 0, -1), grows(30, 0, 30)}, 120, 0, []int{40, 50, 30}},
		{[]Item{shrinks(0, 40, -1), shrinks(100, 0, -1)}, 100, 0, []int{40, 60}},
		{[]Item{shrinks(10, 40, 20), shrinks(100, 0, -1)}, 100, 0, []int{40, 60}},
		{[]Item{{Base: 100, Max: 40}, grows(0, 0, -1)}, 100, 0, []int{40, 60}},                     // a factor of 0
		{[]Item{{Base: 10, Min: 40, Max: -1}, grows(0, 0, -1)}, 100, 0, []int{40, 60}},             // a factor of 0
		{[]Item{{Base: 10, Min: 40, Max: -1, Grow: 1}, grows(0, 0, -1)}, 100, 0, []int{40, 60}},    // held later
		{[]Item{{Base: 100, Max: 40, Shrink: 1}, shrinks(100, 0, -1)}, 100, 0, []int{40, 60}},      // held later
		{[]Item{{Base: 100, Max: 40, Shrink: 5000}, shrinks(100, 0, -1)}, 130, 0, []int{40, 90}},   // 42 and 88 at first
		{[]Item{{Base: 100, Max: 60, Shrink: 5000}, shrinks(100, 0, -1)}, 130, 0, []int{41, 89}},   // 41.67 is 58.33 less
		{[]Item{{Base: 10, Min: 40, Max: -1, Grow: 9000}, grows(0, 0, -1)}, 60, 0, []int{55, 5}},   // not held at all
		{[]Item{{Base: 10, Min: 40, Max: -1, Grow: 1000}, grows(10, 0, -1)}, 70, 0, []int{40, 30}}, // held: 35 at first
	})
}

// P101: while some gain or lose by their bounds, those are settled that did what all did together.
func TestShareRounds(t *testing.T) {
	wantShares(t, []shareCase{
		{[]Item{grows(0, 0, 10), grows(0, 30, -1), grows(0, 0, -1)}, 60, 0, []int{10, 30, 20}}, // 0 together: all
		{[]Item{grows(0, 0, 10), grows(0, 35, -1), grows(0, 0, -1)}, 60, 0, []int{10, 35, 15}}, // the second one ahead
		{[]Item{grows(0, 0, 5), grows(0, 30, -1), grows(0, 0, -1)}, 60, 0, []int{5, 30, 25}},   // the first one ahead
		{[]Item{grows(0, 0, 12), grows(0, 35, -1), grows(0, 0, -1)}, 60, 0, []int{12, 35, 13}}, // then 12 and 13: none is held
		{[]Item{grows(0, 0, 5), grows(0, 27, -1), grows(0, 0, -1)}, 60, 0, []int{5, 27, 28}},   // then 27 and 28: none is held
		{[]Item{grows(0, 0, 20), grows(0, 0, 40), grows(0, 0, -1)}, 150, 0, []int{20, 40, 90}},
		{[]Item{grows(0, 0, 20), grows(0, 0, 40)}, 150, 0, []int{20, 40}}, // nobody takes the rest
		{[]Item{shrinks(100, 90, -1), shrinks(100, 0, 30), shrinks(100, 0, -1)}, 180, 0, []int{90, 30, 60}},
		{[]Item{shrinks(100, 80, -1), shrinks(100, 0, 40), shrinks(100, 0, -1)}, 180, 0, []int{80, 40, 60}},
		{[]Item{shrinks(100, 70, -1), shrinks(100, 0, 20), shrinks(100, 0, -1)}, 180, 0, []int{80, 20, 80}},
		{[]Item{shrinks(100, 90, -1), shrinks(100, 80, -1)}, 100, 0, []int{90, 80}}, // it is too much
	})
}

// P101: factors of less than 1000 together share only as much of what was free at first; rounded nearer to 0.
func TestShareSome(t *testing.T) {
	wantShares(t, []shareCase{
		{[]Item{item(10, 200, 0), item(10, 300, 0)}, 120, 0, []int{30, 40}},
		{[]Item{item(10, 500, 0), item(10, 500, 0)}, 120, 0, []int{60, 60}},
		{[]Item{item(10, 500, 0), item(10, 499, 0)}, 1020, 0, []int{510, 509}},
		{[]Item{item(0, 500, 0)}, 5, 0, []int{2}},
		{[]Item{item(100, 0, 500)}, 50, 0, []int{75}},
		{[]Item{item(100, 0, 500)}, 95, 0, []int{98}},  // -2.5 is -2 here
		{[]Item{item(100, 0, 1)}, 10, 0, []int{100}},   // -0.09 is 0
		{[]Item{item(100, 0, 999)}, 10, 0, []int{11}},  // -89.91 is -89
		{[]Item{item(100, 0, 1000)}, 10, 0, []int{10}}, // all
		{[]Item{item(100, 0, 100), item(300, 0, 300)}, 300, 0, []int{96, 264}},
		// the first one is held: what was free at first counts, not what is free then
		{[]Item{{Max: 5, Grow: 200}, item(0, 300, 0)}, 100, 0, []int{5, 30}},
		// unless what is free then is less
		{[]Item{{Min: 90, Max: -1, Grow: 100}, item(0, 500, 0)}, 100, 0, []int{90, 10}},
		{[]Item{{Min: 50, Max: -1, Grow: 100}, item(0, 500, 0)}, 100, 0, []int{50, 50}},
		{[]Item{{Min: 49, Max: -1, Grow: 100}, item(0, 500, 0)}, 100, 0, []int{49, 50}},
		// factors that are enough at first, and not when others are settled
		{[]Item{{Max: 5, Grow: 800}, item(0, 300, 0)}, 100, 0, []int{5, 30}},
		{[]Item{{Base: 100, Min: 90, Max: -1, Shrink: 900}, item(100, 0, 200)}, 100, 0, []int{90, 80}},
		{[]Item{{Base: 100, Min: 90, Max: -1, Shrink: 900}, item(100, 0, 950)}, 100, 0, []int{90, 10}},
		{[]Item{{Base: 100, Min: 90, Max: -1, Shrink: 900}, item(100, 0, 899)}, 100, 0, []int{90, 11}},
	})
}

// P101: what settled ones have counts in START, too: those that are settled at once are not shared among.
func TestShareStart(t *testing.T) {
	wantShares(t, []shareCase{
		{[]Item{item(50, 0, 0), item(10, 500, 0)}, 100, 0, []int{50, 30}},
		{[]Item{grows(100, 0, 40), item(0, 500, 0)}, 100, 0, []int{40, 30}},
		{[]Item{shrinks(0, 40, -1), item(100, 0, 500)}, 100, 0, []int{40, 80}},
		{[]Item{{Base: 10, Min: 40, Max: -1}, item(0, 500, 0)}, 100, 0, []int{40, 30}},
		{[]Item{{Base: 100, Max: 40}, item(100, 0, 500)}, 100, 0, []int{40, 80}},
		{[]Item{{Base: 0, Min: 40, Max: -1, Around: 10, Shrink: 1000}, item(100, 0, 500)}, 100, 10, []int{40, 70}},
	})
}

// P101: an item that is held by both bounds has its Min.
func TestShareBoth(t *testing.T) {
	wantShares(t, []shareCase{
		{[]Item{grows(0, 30, 20), grows(0, 0, -1)}, 100, 0, []int{30, 70}},
		{[]Item{grows(50, 30, 20), grows(0, 0, -1)}, 100, 0, []int{30, 70}},
		{[]Item{shrinks(50, 30, 20), shrinks(100, 0, -1)}, 100, 0, []int{30, 70}},
		{[]Item{shrinks(10, 30, 20), shrinks(100, 0, -1)}, 100, 0, []int{30, 70}},
		{[]Item{{Grow: 1000}, grows(0, 0, -1)}, 100, 0, []int{0, 100}}, // a Max of 0
	})
}

// P5: what 64 bits do not hold is shared as if they did.
func TestShareGreat(t *testing.T) {
	great := 1 << 23
	grow := make([]Item, api.MaxItems)
	shrink := make([]Item, api.MaxItems)
	for at := range grow {
		grow[at] = Item{Max: -1, Around: math.MinInt, Grow: math.MaxInt}
		shrink[at] = Item{Base: math.MaxInt, Max: -1, Around: math.MaxInt, Shrink: math.MaxInt}
	}
	var grown, shrunk []int
	for k := range grow {
		free := (api.MaxItems + 1) * api.MaxLen
		grown = append(grown, free*(k+1)/api.MaxItems-free*k/api.MaxItems)
		shrunk = append(shrunk, 0)
	}
	wantShares(t, []shareCase{
		{[]Item{item(great, 0, most), item(great, 0, most)}, great, 0, []int{great / 2, great / 2}},
		{[]Item{item(api.MaxLen, 0, most), item(api.MaxLen, 0, most)}, api.MaxLen + 1, 0, []int{api.MaxLen / 2, api.MaxLen / 2}},
		{[]Item{item(0, most, 0), item(0, most, 0), item(0, 1, 0)}, math.MaxInt, 0, []int{api.MaxLen/2 - 1, api.MaxLen / 2, 1}},
		{grow, math.MaxInt, 0, grown},
		{shrink, math.MinInt, math.MaxInt, shrunk},
	})
}

// A Max that is too great is held, and counts then; without one an item may be wider than a length that is handed over.
func TestShareMaxHeld(t *testing.T) {
	wantShares(t, []shareCase{
		{[]Item{{Max: math.MaxInt, Around: -api.MaxLen, Grow: 1000}}, api.MaxLen, 0, []int{api.MaxLen}},
		{[]Item{{Max: api.MaxLen + 1, Around: -api.MaxLen, Grow: 1000}}, api.MaxLen, 0, []int{api.MaxLen}},
		{[]Item{{Max: math.MinInt, Around: -api.MaxLen, Grow: 1000}}, api.MaxLen, 0, []int{2 * api.MaxLen}},
	})
}

// Of more than MaxItems items only the first ones count, and the gaps between them.
func TestShareMost(t *testing.T) {
	for _, n := range []int{api.MaxItems - 1, api.MaxItems, api.MaxItems + 1, 3 * api.MaxItems} {
		l := make([]Item, n)
		for at := range l {
			l[at] = item(10, 1000, 0)
		}
		counted := min(n, api.MaxItems)
		got := Share(l, counted*20+(counted-1)*3, 3)
		if len(got) != counted || slices.Min(got) != 20 || slices.Max(got) != 20 {
			t.Error(n, got)
		}
	}
}

// Numbers that nobody would hand over.
func TestShareWrong(t *testing.T) {
	wantShares(t, []shareCase{
		{[]Item{{math.MinInt, math.MinInt, math.MinInt, math.MinInt, math.MinInt, math.MinInt}}, math.MinInt, math.MinInt, []int{0}},
		{[]Item{{math.MaxInt, math.MaxInt, math.MaxInt, math.MaxInt, math.MaxInt, math.MaxInt}}, math.MaxInt, math.MaxInt, []int{api.MaxLen}},
		{[]Item{{math.MaxInt, math.MinInt, math.MinInt, math.MinInt, math.MaxInt, math.MaxInt}}, math.MinInt, 0, []int{0}},
		{[]Item{{}, {}}, 0, 0, []int{0, 0}},
		{[]Item{{}, {}}, 100, 0, []int{0, 0}},
		{[]Item{{}, {}}, -100, 0, []int{0, 0}},
		{[]Item{item(10, -1000, -1000), item(20, -1, -1)}, 100, 0, []int{10, 20}},
		{[]Item{item(10, -1000, -1000), item(20, -1, -1)}, 0, 0, []int{10, 20}},
	})
}
