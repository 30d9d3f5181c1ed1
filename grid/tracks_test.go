package grid

import (
	"math"
	"slices"
	"testing"

	"casement/api"
)

func px(n int) Track     { return Track{1, n} }
func partOf(n int) Track { return Track{2, n} }
func fr(n int) Track     { return Track{3, n} }

type tracksCase struct {
	l         []Track
	needs     []Need
	room, gap int
	want      []int
}

func wantTracks(t *testing.T, l []tracksCase) {
	t.Helper()
	for _, c := range l {
		if got := Tracks(c.l, c.needs, c.room, c.gap); !slices.Equal(got, c.want) {
			t.Errorf("%v with %v in %d, gap %d: %v, want %v", c.l, c.needs, c.room, c.gap, got, c.want)
		}
	}
}

// P111, 1: tracks that tell how wide they are, in lengths or in parts of the room; needs and gaps say nothing of these.
func TestTracksTold(t *testing.T) {
	needs := []Need{{1, 1, 500}, {2, 1, 500}, {1, 2, 5000}}
	wantTracks(t, []tracksCase{
		{[]Track{px(10), px(0)}, needs, 100, 5, []int{10, 0}},
		{[]Track{px(10), px(-7)}, needs, 100, 5, []int{10, 0}},
		{[]Track{px(10), px(300)}, needs, -1, 5, []int{10, 300}},
		{[]Track{partOf(10000), partOf(100000)}, needs, 200, 5, []int{20, 200}},
		{[]Track{partOf(33333), partOf(999)}, needs, 100, 5, []int{33, 0}}, // 33.3 and 0.999
		{[]Track{partOf(250000), partOf(-1)}, needs, 100, 5, []int{250, 0}},
		{[]Track{partOf(50000), partOf(0)}, needs, 0, 5, []int{0, 0}},
		{[]Track{px(math.MaxInt), px(math.MinInt)}, needs, 0, 5, []int{api.MaxLen, 0}},
		{[]Track{px(api.MaxLen + 1), px(api.MaxLen - 1)}, needs, 0, 5, []int{api.MaxLen, api.MaxLen - 1}},
		// what they come to is not held
		{[]Track{partOf(math.MaxInt), partOf(most - 1)}, needs, math.MaxInt, 0, []int{167772160000, 167772159832}},
	})
}

// P111, 2: an auto track is as wide as the greatest of the needs in it alone; without needs, or with such below 0, it is 0.
func TestTracksAuto(t *testing.T) {
	wantTracks(t, []tracksCase{
		{[]Track{{}, {}}, nil, 100, 5, []int{0, 0}},
		{[]Track{{}, {}}, []Need{{1, 1, 20}, {1, 1, 30}, {1, 1, 25}, {2, 1, 7}}, 100, 5, []int{30, 7}},
		{[]Track{{}, {}}, []Need{{1, 1, -20}, {2, 1, -5}, {2, 1, 3}}, 100, 5, []int{0, 3}},
		{[]Track{{}}, []Need{{1, 1, 500}}, 100, 5, []int{500}}, // the room says nothing
		{[]Track{{0, 70}}, []Need{{1, 1, 5}}, 100, 5, []int{5}},
		{[]Track{{}}, []Need{{1, 1, math.MaxInt}}, 100, 5, []int{api.MaxLen}},
	})
	for _, kind := range []int{-1, 4, 5, math.MinInt, math.MaxInt} {
		wantTracks(t, []tracksCase{{[]Track{{kind, 70}, fr(1000)}, []Need{{1, 1, 5}}, 100, 0, []int{5, 95}}})
	}
}

// P111, 3: what a need of several tracks misses goes to those that are auto.
func TestTracksWiden(t *testing.T) {
	wantTracks(t, []tracksCase{
		{[]Track{{}, {}, {}}, []Need{{1, 3, 10}}, 100, 0, []int{3, 3, 4}},
		{[]Track{{}, {}, {}}, []Need{{1, 3, 11}}, 100, 0, []int{3, 4, 4}},
		{[]Track{{}, {}, {}}, []Need{{1, 3, 20}}, 100, 4, []int{4, 4, 4}},
		{[]Track{{}, {}, {}}, []Need{{1, 3, 8}}, 100, 4, []int{0, 0, 0}},
		{[]Track{{}, {}, {}}, []Need{{1, 3, 9}}, 100, 4, []int{0, 0, 1}},
		{[]Track{{}, {}, {}}, []Need{{1, 3, 10}}, 100, -5, []int{6, 7, 7}}, // gaps below 0 count, too
		{[]Track{{}, px(5), {}}, []Need{{1, 3, 20}}, 100, 0, []int{7, 5, 8}},
		{[]Track{{}, partOf(5000), {}}, []Need{{1, 3, 20}}, 100, 0, []int{7, 5, 8}},
		{[]Track{{}, px(50), {}}, []Need{{1, 3, 20}}, 100, 0, []int{0, 50, 0}},
		{[]Track{px(5), px(5)}, []Need{{1, 2, 20}}, 100, 0, []int{5, 5}}, // none is auto
		{[]Track{{}, {}, {}}, []Need{{2, 2, 10}}, 100, 0, []int{0, 5, 5}},
		{[]Track{{}, {}, {}}, []Need{{1, 1, 6}, {1, 2, 10}}, 100, 0, []int{8, 2, 0}},
		{[]Track{{}, {}}, []Need{{1, 2, -3}}, 100, 0, []int{0, 0}},
		{[]Track{{}, {}}, []Need{{1, 2, -3}}, 100, -10, []int{3, 4}},
	})
}

// P111, 3: needs are met in the order of their spans, of one span in theirs, each by what those ahead have left.
func TestTracksOrder(t *testing.T) {
	wantTracks(t, []tracksCase{
		{[]Track{{}, {}, {}}, []Need{{1, 3, 30}, {1, 2, 10}, {1, 1, 6}}, 100, 0, []int{14, 9, 7}},
		{[]Track{{}, {}, {}}, []Need{{1, 1, 6}, {1, 2, 10}, {1, 3, 30}}, 100, 0, []int{14, 9, 7}},
		{[]Track{{}, {}, {}}, []Need{{1, 2, 10}, {2, 2, 11}}, 100, 0, []int{5, 8, 3}},
		{[]Track{{}, {}, {}}, []Need{{2, 2, 11}, {1, 2, 10}}, 100, 0, []int{2, 8, 6}},
		{[]Track{{}, {}, {}}, []Need{{1, 2, 10}, {1, 2, 12}, {1, 2, 11}}, 100, 0, []int{6, 6, 0}},
		{[]Track{{}, {}, {}}, []Need{{1, 3, 9}, {2, 2, 11}, {1, 2, 10}, {2, 1, 4}}, 100, 0, []int{1, 9, 4}},
	})
	// so many of one span that a sort which is not stable would mix them up
	var needs []Need
	for n := range 60 {
		needs = append(needs, Need{1 + n%7, 2, 10 + 13*n%50}, Need{1 + n%5, 3, 20 + 7*n%50})
	}
	if got, want := Tracks(nil, needs, -1, 0), modelTracks(nil, needs, -1, 0); !slices.Equal(got, want) {
		t.Error(got, want)
	}
}

// P111, 3: a need that has a share widens nothing.
func TestTracksShareNeeds(t *testing.T) {
	wantTracks(t, []tracksCase{
		{[]Track{{}, fr(1000)}, []Need{{1, 2, 80}}, 30, 0, []int{0, 30}},
		{[]Track{{}, fr(1000), {}}, []Need{{1, 3, 80}, {2, 2, 70}, {2, 1, 70}}, 30, 0, []int{0, 30, 0}},
		{[]Track{{}, fr(1000), {}}, []Need{{1, 1, 4}, {3, 1, 5}}, 30, 0, []int{4, 21, 5}},
		{[]Track{{}, fr(0), {}}, []Need{{1, 3, 80}}, 30, 0, []int{0, 0, 0}}, // one of nothing is a share, too
		{[]Track{fr(1000), {}, {}}, []Need{{2, 2, 20}}, 30, 0, []int{10, 10, 10}},
	})
}

// P111, 4: shares have what is left of the room, each reaching from where the one ahead ends; factors of less than 1000 together are of 1000.
func TestTracksShares(t *testing.T) {
	wantTracks(t, []tracksCase{
		{[]Track{fr(1000), fr(1000), fr(1000)}, nil, 10, 0, []int{3, 3, 4}},
		{[]Track{fr(1000), fr(2000)}, nil, 80, 0, []int{26, 54}},
		{[]Track{fr(1000), px(10), fr(2000), partOf(10000)}, nil, 100, 0, []int{26, 10, 54, 10}},
		{[]Track{fr(1000), {}, fr(1000)}, []Need{{2, 1, 7}}, 100, 4, []int{42, 7, 43}},
		{[]Track{fr(1000)}, []Need{{4, 1, 7}}, 100, 4, []int{81, 0, 0, 7}}, // gaps of tracks that nobody told, too
		{[]Track{fr(1000), px(200)}, nil, 100, 0, []int{0, 200}},
		{[]Track{fr(1000), px(100)}, nil, 100, 0, []int{0, 100}},
		{[]Track{fr(1000), px(99)}, nil, 100, 0, []int{1, 99}},
		{[]Track{fr(1000), fr(1000)}, nil, 100, 200, []int{0, 0}},
		{[]Track{fr(1000), fr(1000)}, nil, 100, -20, []int{60, 60}},
		{[]Track{fr(1000), fr(1000)}, nil, 0, 0, []int{0, 0}},
		{[]Track{fr(500)}, nil, 101, 0, []int{50}},
		{[]Track{fr(200), fr(300)}, nil, 101, 0, []int{20, 30}},
		{[]Track{fr(333), fr(333), fr(333)}, nil, 1000, 0, []int{333, 333, 333}},
		{[]Track{fr(999)}, nil, 1000, 0, []int{999}},
		{[]Track{fr(1001)}, nil, 1000, 0, []int{1000}},
		{[]Track{fr(500), fr(500)}, nil, 101, 0, []int{50, 51}},
		{[]Track{fr(500), fr(501)}, nil, 1001, 0, []int{500, 501}},
		{[]Track{fr(0), fr(0)}, nil, 100, 0, []int{0, 0}},
		{[]Track{fr(0), fr(1000), fr(0)}, nil, 100, 0, []int{0, 100, 0}},
		{[]Track{fr(-1), fr(1000), fr(math.MinInt)}, nil, 100, 0, []int{0, 100, 0}},
		{[]Track{fr(most), fr(math.MaxInt), fr(most + 1)}, nil, 100, 0, []int{33, 33, 34}},
		{[]Track{fr(most), fr(1)}, nil, math.MaxInt, 0, []int{api.MaxLen - 1, 1}},
	})
}

// P111: a room below 0 is none: parts and shares are as auto then, whatever their numbers.
func TestTracksWithoutRoom(t *testing.T) {
	for _, room := range []int{-1, -100, math.MinInt} {
		wantTracks(t, []tracksCase{
			{[]Track{fr(1000), partOf(1000), px(9)}, nil, room, 0, []int{0, 0, 9}},
			{[]Track{fr(1000), partOf(1000), px(9)}, []Need{{1, 1, 7}, {2, 1, 8}, {3, 1, 10}}, room, 4, []int{7, 8, 9}},
			{[]Track{fr(0), partOf(0), px(9)}, []Need{{1, 3, 30}}, room, 0, []int{10, 11, 9}},
			{[]Track{fr(math.MaxInt), {}}, []Need{{1, 2, 30}}, room, 10, []int{10, 10}},
		})
	}
}

// P111: needs that are not there, and tracks that are there for needs.
func TestTracksNeeds(t *testing.T) {
	far, most := api.MaxItems, api.MaxSpan
	for _, n := range []Need{{0, 1, 7}, {-1, 1, 7}, {far + 1, 1, 7}, {math.MinInt, 1, 7}, {math.MaxInt, 1, 7}, {0, 2, 7},
		{1, 0, 7}, {1, -1, 7}, {1, most + 1, 7}, {1, math.MinInt, 7}, {1, math.MaxInt, 7}, {math.MaxInt, math.MaxInt, math.MaxInt}} {
		wantTracks(t, []tracksCase{{nil, []Need{n}, 100, 0, nil}, {[]Track{{}, px(3)}, []Need{n, {1, 1, 2}}, 100, 0, []int{2, 3}}})
	}
	for _, c := range []struct {
		n     Need
		count int
	}{{Need{1, 1, 0}, 1}, {Need{4, 1, 3}, 4}, {Need{4, 1, -3}, 4}, {Need{4, 5, 3}, 8}, {Need{1, most, 3}, most}, {Need{far, 1, 3}, far}, {Need{far, most, 3}, 219}} {
		if got := Tracks(nil, []Need{c.n}, 100, 0); len(got) != c.count {
			t.Error(c.n, len(got))
		}
		if got := Tracks([]Track{px(1), px(1), px(1)}, []Need{c.n}, 100, 0); len(got) != max(c.count, 3) {
			t.Error(c.n, len(got))
		}
	}
	wantTracks(t, []tracksCase{{[]Track{px(5)}, []Need{{1, 3, 30}}, 100, 0, []int{5, 12, 13}}})
}

// Of more than MaxSpan tracks that are told only the first ones count; what needs reach to beyond these is auto.
func TestTracksMost(t *testing.T) {
	for _, n := range []int{api.MaxSpan - 1, api.MaxSpan, api.MaxSpan + 1, 3 * api.MaxSpan} {
		l := slices.Repeat([]Track{px(5)}, n)
		counted := min(n, api.MaxSpan)
		if got := Tracks(l, nil, 100, 0); !slices.Equal(got, slices.Repeat([]int{5}, counted)) {
			t.Error(n, got)
		}
		want := append(slices.Repeat([]int{5}, counted), slices.Repeat([]int{0}, 21-counted)...)
		want[20] = 8
		if got := Tracks(l, []Need{{21, 1, 8}}, 100, 0); !slices.Equal(got, want) {
			t.Error(n, got, want)
		}
	}
}

// There may be any number of needs.
func TestTracksManyNeeds(t *testing.T) {
	needs := slices.Repeat([]Need{{1, 1, 3}}, 5*api.MaxItems)
	needs[len(needs)-1] = Need{2, 1, 9}
	wantTracks(t, []tracksCase{{nil, needs, 100, 0, []int{3, 9}}})
}

// Rooms, gaps and sizes of more than MaxLen in size are held.
func TestTracksHeld(t *testing.T) {
	l := []Track{fr(1000), partOf(50000), {}, {}}
	needs := []Need{{3, 1, 4}, {3, 2, 90}}
	for _, pair := range [][2]int{{api.MaxLen + 1, api.MaxLen}, {math.MaxInt, api.MaxLen}, {-api.MaxLen - 1, -api.MaxLen}, {math.MinInt, -api.MaxLen}} {
		wantTracks(t, []tracksCase{
			{l, needs, pair[0], 7, Tracks(l, needs, pair[1], 7)},
			{l, needs, 100, pair[0], Tracks(l, needs, 100, pair[1])},
			{l, []Need{{3, 1, pair[0]}}, 100, 7, Tracks(l, []Need{{3, 1, pair[1]}}, 100, 7)},
			{l, []Need{{3, 2, pair[0]}}, 100, 7, Tracks(l, []Need{{3, 2, pair[1]}}, 100, 7)},
		})
	}
	wantTracks(t, []tracksCase{
		{[]Track{fr(1000)}, nil, math.MaxInt, 0, []int{api.MaxLen}},
		{[]Track{{}, {}}, []Need{{1, 2, 0}}, 0, math.MinInt, []int{api.MaxLen / 2, api.MaxLen / 2}},
		{[]Track{{}, {}}, []Need{{1, 2, math.MaxInt}}, 0, math.MinInt, []int{api.MaxLen, api.MaxLen}},
		{[]Track{{}, {}}, []Need{{1, 2, math.MaxInt}}, 0, math.MaxInt, []int{0, 0}},
	})
}

// P5: what 64 bits do not hold is shared as if they did: with gaps below 0 there is far more left than the room.
func TestTracksGreat(t *testing.T) {
	got := Tracks(slices.Repeat([]Track{fr(math.MaxInt)}, api.MaxSpan), []Need{{api.MaxItems, api.MaxSpan, 0}}, math.MaxInt, math.MinInt)
	// the last need widens its tracks by what the gaps between them take
	left := api.MaxLen + 218*api.MaxLen - 19*api.MaxLen
	for k := range api.MaxSpan {
		if want := left*(k+1)/api.MaxSpan - left*k/api.MaxSpan; got[k] != want {
			t.Error(k, got[k], want)
		}
	}
	if len(got) != 219 {
		t.Error(len(got))
	}
}
