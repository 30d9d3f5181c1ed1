package grid

import (
	"math/big"
	"math/rand"
	"slices"
	"testing"

	"casement/api"
)

// A second telling: items are held against each other as rectangles, and go on by one column or row at a time; tracks are told step by step, in numbers of any size.

func modelClamp(n, low, high int) int {
	return slices.Max([]int{low, slices.Min([]int{n, high})})
}

// modelClear: no item that stands overlaps it.
func modelClear(stands []Item, i Item) bool {
	return !slices.ContainsFunc(stands, func(o Item) bool {
		return i.Col < o.Col+o.ColSpan && o.Col < i.Col+i.ColSpan && i.Row < o.Row+o.RowSpan && o.Row < i.Row+i.RowSpan
	})
}

func modelItems(l []Item) []Item {
	var out []Item
	for n, i := range l {
		if n < 200 {
			out = append(out, Item{modelClamp(i.Col, 0, 200), modelClamp(i.ColSpan, 1, 20), modelClamp(i.Row, 0, 200), modelClamp(i.RowSpan, 1, 20)})
		}
	}
	return out
}

// modelNext: where an item of which no row is told stands, from the cursor on.
func modelNext(stands []Item, i Item, col, row, cols int) Item {
	if i.Col > 0 {
		i.Row = row
		if i.Col < col {
			i.Row = row + 1
		}
		for !modelClear(stands, i) {
			i.Row++
		}
		return i
	}
	for i.Col, i.Row = col, row; i.Col+i.ColSpan-1 > cols || !modelClear(stands, i); {
		i.Col++
		if i.Col+i.ColSpan-1 > cols {
			i.Col, i.Row = 1, i.Row+1
		}
	}
	return i
}

func modelPlace(l []Item, cols int) ([]Item, int, int) {
	l = modelItems(l)
	needed := []int{1, modelClamp(cols, 0, 20)}
	var told, inRow, others []int
	for n, i := range l {
		needed = append(needed, i.ColSpan)
		if i.Col > 0 {
			needed = append(needed, i.Col+i.ColSpan-1)
		}
		switch {
		case i.Row > 0 && i.Col > 0:
			told = append(told, n)
		case i.Row > 0:
			inRow = append(inRow, n)
		default:
			others = append(others, n)
		}
	}
	var stands []Item
	for _, n := range told {
		stands = append(stands, l[n])
	}
	for _, n := range inRow {
		for l[n].Col = 1; !modelClear(stands, l[n]); l[n].Col++ {
		}
		stands = append(stands, l[n])
		needed = append(needed, l[n].Col+l[n].ColSpan-1)
	}
	cols = slices.Max(needed)
	col, row := 1, 1
	for _, n := range others {
		l[n] = modelNext(stands, l[n], col, row, cols)
		stands = append(stands, l[n])
		col, row = l[n].Col, l[n].Row
	}
	rows := 0
	for _, i := range stands {
		rows = max(rows, i.Row+i.RowSpan-1)
	}
	return l, cols, rows
}

// modelOver: a times b over c, none of them below 0.
func modelOver(a, b, c int) int {
	n := new(big.Int).Mul(big.NewInt(int64(a)), big.NewInt(int64(b)))
	return int(n.Div(n, big.NewInt(int64(c))).Int64())
}

// modelKinds: of each track its kind and number, as they count.
func modelKinds(l []Track, needs []Need, room int) []Track {
	count := min(len(l), 20)
	for _, d := range needs {
		count = max(count, d.From+d.Span-1)
	}
	out := make([]Track, count)
	for n := range out {
		if n >= len(l) || n >= 20 || l[n].Kind < 1 || l[n].Kind > 3 || l[n].Kind > 1 && room < 0 {
			continue
		}
		out[n] = Track{l[n].Kind, modelClamp(l[n].N, 0, most)}
		if out[n].Kind == 1 {
			out[n].N = modelClamp(l[n].N, 0, api.MaxLen)
		}
	}
	return out
}

// modelWiden: P111, 3 of one need.
func modelWiden(kinds []Track, sizes []int, d Need, gap int) {
	var open []int
	together := gap * (d.Span - 1)
	for n := d.From - 1; n < d.From+d.Span-1; n++ {
		together += sizes[n]
		if kinds[n].Kind == 3 {
			return
		}
		if kinds[n].Kind == 0 {
			open = append(open, n)
		}
	}
	missing := d.Size - together
	if missing <= 0 {
		return
	}
	for k, n := range open {
		sizes[n] += modelOver(missing, k+1, len(open)) - modelOver(missing, k, len(open))
	}
}

func modelTracks(l []Track, all []Need, room, gap int) []int {
	room, gap = modelClamp(room, -api.MaxLen, api.MaxLen), modelClamp(gap, -api.MaxLen, api.MaxLen)
	var needs []Need
	for _, d := range all {
		if d.From >= 1 && d.From <= 200 && d.Span >= 1 && d.Span <= 20 {
			needs = append(needs, Need{d.From, d.Span, modelClamp(d.Size, -api.MaxLen, api.MaxLen)})
		}
	}
	kinds := modelKinds(l, needs, room)
	sizes := make([]int, len(kinds))
	for n, k := range kinds {
		switch k.Kind {
		case 0:
			for _, d := range needs {
				if d.Span == 1 && d.From == n+1 {
					sizes[n] = max(sizes[n], d.Size)
				}
			}
		case 1:
			sizes[n] = k.N
		case 2:
			sizes[n] = modelOver(room, k.N, 100000)
		}
	}
	for span := 2; span <= 20; span++ {
		for _, d := range needs {
			if d.Span == span {
				modelWiden(kinds, sizes, d, gap)
			}
		}
	}
	modelShares(kinds, sizes, room, gap)
	return sizes
}

// modelShares: P111, 4.
func modelShares(kinds []Track, sizes []int, room, gap int) {
	left, all := room, 0
	for n, k := range kinds {
		left -= sizes[n]
		if n > 0 {
			left -= gap
		}
		if k.Kind == 3 {
			all += k.N
		}
	}
	left, all = max(left, 0), max(all, 1000)
	ahead := 0
	for n, k := range kinds {
		if k.Kind == 3 {
			sizes[n] = modelOver(left, ahead+k.N, all) - modelOver(left, ahead, all)
			ahead += k.N
		}
	}
}

// at: where something begins, or none; small, so that things meet.
func at(pick func(n int) int, far int) int {
	switch pick(24) {
	case 0:
		return 199 + pick(3)
	case 1:
		return -pick(5)
	case 2, 3, 4, 5:
		return 1 + pick(far)
	case 6, 7, 8:
		return 1 + pick(4)
	}
	return 0
}

// spans: mostly few.
func spans(pick func(n int) int) int {
	switch pick(20) {
	case 0:
		return 19 + pick(3)
	case 1:
		return -pick(3)
	case 2, 3:
		return 1 + pick(7)
	case 4, 5, 6, 7:
		return 1 + pick(3)
	}
	return 1
}

// number of one of several kinds: small ones, those about a bound, great ones.
func number(pick func(n int) int) int {
	switch pick(12) {
	case 0:
		return -pick(30)
	case 1:
		return pick(2*api.MaxLen) - api.MaxLen/2
	case 2:
		return (pick(3) - 1) * (api.MaxLen + pick(3) - 1)
	case 3:
		return 0
	}
	return pick(60)
}

// factor: mostly of less than 2.
func factor(pick func(n int) int) int {
	switch pick(8) {
	case 0:
		return most - 2 + pick(5)
	case 1:
		return pick(5) - 2
	case 2, 3, 4:
		return 1000 * pick(4)
	}
	return pick(900)
}

func madeItems(pick func(n int) int, count int) []Item {
	var l []Item
	for range count {
		l = append(l, Item{at(pick, 12), spans(pick), at(pick, 12), spans(pick)})
	}
	return l
}

func madeTracks(pick func(n int) int, count int) []Track {
	var l []Track
	for range count {
		t := Track{Kind: pick(6) - 1}
		switch t.Kind {
		case 1:
			t.N = number(pick)
		case 2:
			t.N = 50 * factor(pick)
		default:
			t.N = factor(pick)
		}
		l = append(l, t)
	}
	return l
}

func madeNeeds(pick func(n int) int, count, far int) []Need {
	var l []Need
	for range count {
		d := Need{1 + pick(far), spans(pick), number(pick)}
		if pick(20) == 0 {
			d.From = at(pick, far)
		}
		l = append(l, d)
	}
	return l
}

// madeRoom: often none, or such that something is left.
func madeRoom(pick func(n int) int) int {
	switch pick(4) {
	case 0:
		return -1 - pick(5)
	case 1:
		return number(pick)
	}
	return pick(700)
}

func wantModel(t *testing.T, l []Item, cols int, tracks []Track, needs []Need, room, gap int) {
	t.Helper()
	got, n, m := Place(l, cols)
	want, wide, high := modelPlace(l, cols)
	if !slices.Equal(got, want) || n != wide || m != high {
		t.Errorf("%v in %d: %v, %d, %d, want %v, %d, %d", l, cols, got, n, m, want, wide, high)
	}
	if got, want := Tracks(tracks, needs, room, gap), modelTracks(tracks, needs, room, gap); !slices.Equal(got, want) {
		t.Errorf("%v with %v in %d, gap %d: %v, want %v", tracks, needs, room, gap, got, want)
	}
}

func wantMade(t *testing.T, pick func(n int) int) {
	t.Helper()
	gap := 0
	if pick(2) > 0 {
		gap = number(pick)
	}
	wantModel(t, madeItems(pick, pick(10)), pick(8)-1, madeTracks(pick, pick(6)), madeNeeds(pick, pick(8), 6), madeRoom(pick), gap)
}

// Tables that are made by chance are what the second telling says.
func TestModel(t *testing.T) {
	r := rand.New(rand.NewSource(11))
	for range 40000 {
		wantMade(t, r.Intn)
		if t.Failed() {
			return
		}
	}
}

// Great ones likewise, also too great ones.
func TestModelGreat(t *testing.T) {
	r := rand.New(rand.NewSource(12))
	for range 150 {
		l := madeItems(r.Intn, r.Intn(api.MaxItems+20))
		wantModel(t, l, r.Intn(25), madeTracks(r.Intn, r.Intn(api.MaxSpan+5)), madeNeeds(r.Intn, r.Intn(400), 210), madeRoom(r.Intn), r.Intn(9)-2)
		if t.Failed() {
			return
		}
	}
}

// Of items that are not told to stand somewhere none has a cell of another's, and none ends beyond the columns.
func TestPlaceApart(t *testing.T) {
	r := rand.New(rand.NewSource(13))
	for range 3000 {
		l := madeItems(r.Intn, r.Intn(20))
		for n := range l {
			if l[n].Row > 0 {
				l[n].Col = 0
			}
		}
		got, cols, rows := Place(l, r.Intn(6))
		for n, i := range got {
			if !modelClear(got[:n], i) || i.Col < 1 || i.Row < 1 || i.Col+i.ColSpan-1 > cols || i.Row+i.RowSpan-1 > rows {
				t.Fatalf("%v: %v, %d, %d", l, got, cols, rows)
			}
		}
	}
}

// With a share of 1 or more all of the room is taken, if the others leave something of it.
func TestTracksAll(t *testing.T) {
	r := rand.New(rand.NewSource(14))
	for range 3000 {
		l := append(madeTracks(r.Intn, r.Intn(5)), fr(1000+r.Intn(3000)))
		needs := madeNeeds(r.Intn, r.Intn(5), 6)
		room, gap, sum := r.Intn(api.MaxLen), r.Intn(5), 0
		sizes := Tracks(l, needs, room, gap)
		for _, w := range sizes {
			sum += w
		}
		sum += gap * (len(sizes) - 1)
		if sum < room {
			t.Fatalf("%v with %v in %d: %v, %d together", l, needs, room, sizes, sum)
		}
	}
}

func FuzzGrid(f *testing.F) {
	f.Add([]byte("as many columns as there are, and as many rows as it takes"))
	f.Add([]byte{7, 200, 3, 0, 90, 1, 1, 1, 250, 250, 4, 5, 6, 12, 90, 31})
	f.Fuzz(func(t *testing.T, data []byte) {
		at := 0
		wantMade(t, func(n int) int {
			// three bytes a number: enough for those that a length may be
			number := 0
			for range 3 {
				if at < len(data) {
					number = number<<8 | int(data[at])
					at++
				}
			}
			return number % n
		})
	})
}
