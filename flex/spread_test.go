package flex

import (
	"math"
	"slices"
	"testing"

	"casement/api"
)

type spreadCase struct {
	l              []int
	room, gap, how int
	want           []int
}

func wantSpreads(t *testing.T, l []spreadCase) {
	t.Helper()
	for _, c := range l {
		if got := Spread(c.l, c.room, c.gap, c.how); !slices.Equal(got, c.want) {
			t.Errorf("%+v: %v", c, got)
		}
	}
}

// P102: start, end, center.
func TestSpreadTogether(t *testing.T) {
	wantSpreads(t, []spreadCase{
		{[]int{10, 20, 30}, 100, 0, 0, []int{0, 10, 30}},
		{[]int{10, 20, 30}, 100, 5, 0, []int{0, 15, 40}},
		{[]int{10, 20, 30}, 0, 5, 0, []int{0, 15, 40}},
		{[]int{10, 20, 30}, 100, 5, 1, []int{30, 45, 70}},
		{[]int{10, 20, 30}, 70, 5, 1, []int{0, 15, 40}},
		{[]int{10, 20, 30}, 60, 5, 1, []int{-10, 5, 30}},
		{[]int{10, 20, 30}, 100, 5, 2, []int{15, 30, 55}},
		{[]int{10, 20, 30}, 99, 5, 2, []int{14, 29, 54}},
		{[]int{10, 20, 30}, 60, 5, 2, []int{-5, 10, 35}},
		{[]int{10, 20, 30}, 59, 5, 2, []int{-6, 9, 34}}, // -5.5 is -6
		{[]int{10}, 40, 9, 0, []int{0}},
		{[]int{10}, 40, 9, 1, []int{30}},
		{[]int{10}, 40, 9, 2, []int{15}},
		{[]int{10, 20}, 100, -4, 1, []int{74, 80}},
		{[]int{-10, 20}, 100, 0, 1, []int{90, 80}},
	})
}

// P102: between, around, evenly; each place is rounded down for itself.
func TestSpreadApart(t *testing.T) {
	wantSpreads(t, []spreadCase{
		{[]int{10, 20, 30}, 100, 0, 3, []int{0, 30, 70}},
		{[]int{10, 20, 30}, 101, 0, 3, []int{0, 30, 71}},
		{[]int{10, 20, 30}, 100, 5, 3, []int{0, 30, 70}},
		{[]int{10, 20, 30, 0}, 100, 0, 3, []int{0, 23, 56, 100}}, // 13.3, 26.7, 40
		{[]int{10, 20, 30}, 100, 0, 4, []int{6, 30, 63}},         // 6.7, 20, 33.3
		{[]int{10, 20, 30}, 101, 0, 4, []int{6, 30, 64}},         // 6.8, 20.5, 34.2
		{[]int{10, 20}, 70, 0, 4, []int{10, 40}},
		{[]int{10, 20}, 70, 2, 4, []int{9, 40}},           // 9.5, 28.5
		{[]int{10, 20, 30}, 100, 0, 5, []int{10, 30, 60}}, // 10, 20, 30
		{[]int{10, 20, 30}, 103, 0, 5, []int{10, 31, 62}}, // 10.75, 21.5, 32.25
		{[]int{10, 20, 30}, 103, 1, 5, []int{10, 31, 62}}, // 10.25, 20.5, 30.75, and gaps
		{[]int{10}, 41, 9, 3, []int{0}},                   // one alone
		{[]int{10}, 41, 9, 4, []int{15}},
		{[]int{10}, 41, 9, 5, []int{15}},
		{[]int{10, 20}, 100, -4, 3, []int{0, 80}},
		{[]int{0, 0, 0}, 2, 0, 3, []int{0, 1, 2}},
		{[]int{0, 0, 0}, 1, 0, 3, []int{0, 0, 1}},
	})
}

// P102: with less than nothing left these three are as start; with nothing left all are.
func TestSpreadWithoutRoom(t *testing.T) {
	for how := 3; how <= 5; how++ {
		for _, room := range []int{69, 0, -1, math.MinInt} {
			wantSpreads(t, []spreadCase{{[]int{10, 20, 30}, room, 5, how, []int{0, 15, 40}}, {[]int{80}, room, 5, how, []int{0}}})
		}
	}
	for how := 0; how <= 5; how++ {
		wantSpreads(t, []spreadCase{{[]int{10, 20, 30}, 70, 5, how, []int{0, 15, 40}}})
	}
}

// P102: another how is start; nothing has no place.
func TestSpreadOthers(t *testing.T) {
	for _, how := range []int{-1, 6, 7, 100, math.MinInt, math.MaxInt} {
		wantSpreads(t, []spreadCase{{[]int{10, 20}, 100, 5, how, []int{0, 15}}, {[]int{10, 20}, 10, 5, how, []int{0, 15}}})
	}
	for how := -1; how <= 6; how++ {
		wantSpreads(t, []spreadCase{{nil, 100, 5, how, nil}, {[]int{}, -100, 5, how, nil}})
	}
}

// Numbers of more than MaxLen in size are held; places may be beyond that.
func TestSpreadHeld(t *testing.T) {
	for _, pair := range beyond() {
		for how := range 6 {
			for at := range 3 {
				a, b := []int{10, 20, 30}, []int{10, 20, 30}
				a[at], b[at] = pair[0], pair[1]
				for _, room := range []int{-100, 0, 100, api.MaxLen} {
					wantSpreads(t, []spreadCase{{a, room, 5, how, Spread(b, room, 5, how)}})
				}
			}
			l := []int{10, 20, 30}
			wantSpreads(t, []spreadCase{{l, pair[0], 5, how, Spread(l, pair[1], 5, how)}, {l, 100, pair[0], how, Spread(l, 100, pair[1], how)}})
		}
	}
	wantSpreads(t, []spreadCase{
		{[]int{math.MaxInt, math.MaxInt, 0}, 0, 0, 0, []int{0, api.MaxLen, 2 * api.MaxLen}},
		{[]int{math.MaxInt, math.MaxInt, 0}, math.MinInt, 0, 1, []int{-3 * api.MaxLen, -2 * api.MaxLen, -api.MaxLen}},
		{[]int{math.MinInt, 0}, math.MaxInt, 0, 3, []int{0, api.MaxLen}},
	})
}

// Of more than MaxItems things only the first ones count, and the gaps between them.
func TestSpreadMost(t *testing.T) {
	for _, n := range []int{api.MaxItems - 1, api.MaxItems, api.MaxItems + 1, 3 * api.MaxItems} {
		l := make([]int, n)
		for at := range l {
			l[at] = 2
		}
		counted := min(n, api.MaxItems)
		for how, want := range [][2]int{{0, 5 * (counted - 1)}, {2 * counted, 2*counted + 5*(counted-1)}, {counted, counted + 5*(counted-1)}} {
			got := Spread(l, 2*counted+3*(counted-1)+2*counted, 3, how)
			if len(got) != counted || got[0] != want[0] || got[counted-1] != want[1] {
				t.Error(n, how, got)
			}
		}
	}
}

// P103: at 0, at the end, at half of what is left, rounded down.
func TestStand(t *testing.T) {
	for _, c := range []struct{ size, room, how, want int }{
		{30, 100, 0, 0}, {30, 100, 1, 70}, {30, 100, 2, 35}, {30, 100, 3, 0},
		{31, 100, 2, 34}, {31, 100, 1, 69},
		{100, 100, 1, 0}, {100, 100, 2, 0},
		{100, 30, 0, 0}, {100, 30, 1, -70}, {100, 30, 2, -35}, {100, 30, 3, 0},
		{100, 31, 2, -35}, {101, 100, 2, -1}, {101, 100, 1, -1},
		{-10, 0, 1, 10}, {-10, 1, 2, 5}, {10, -10, 1, -20},
		{30, 100, -1, 0}, {30, 100, 4, 0}, {30, 100, 5, 0}, {30, 100, math.MaxInt, 0}, {30, 100, math.MinInt, 0},
		{math.MaxInt, 0, 1, -api.MaxLen}, {0, math.MaxInt, 1, api.MaxLen}, {0, math.MaxInt, 2, api.MaxLen / 2},
		{math.MinInt, math.MaxInt, 1, 2 * api.MaxLen}, {math.MaxInt, math.MinInt, 1, -2 * api.MaxLen},
		{api.MaxLen + 1, api.MaxLen, 1, 0}, {-api.MaxLen - 1, -api.MaxLen, 2, 0},
	} {
		if got := Stand(c.size, c.room, c.how); got != c.want {
			t.Errorf("%+v: %d", c, got)
		}
	}
}
