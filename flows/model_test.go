package flows

import (
	"math/rand"
	"slices"
	"testing"

	"casement/api"
)

// A second telling: of floats, every height is tried, one after the other, and the row of numbers that each float takes is held against it; of widths, all is done as often as the document says, each time anew.

// modelFloats: floats as they were added, of all rooms.
type modelFloats struct{ all []Float }

// modelReach: whether two things reach into each other.
func modelReach(aY, aH, bY, bH int) bool {
	for y := aY; y < aY+max(aH, 1); y++ {
		if y >= bY && y < bY+max(bH, 1) {
			return true
		}
	}
	return false
}

// between: L and R, and how many floats reach in.
func (m *modelFloats) between(low, high, y, h int) (l, r, count int) {
	lefts, rights := []int{low}, []int{max(low, high)}
	for _, f := range m.all {
		if !modelReach(f.Rect.Y, f.Rect.H, y, h) {
			continue
		}
		count++
		if f.Right {
			rights = append(rights, f.Rect.X)
		} else {
			lefts = append(lefts, f.Rect.X+f.Rect.W)
		}
	}
	return slices.Max(lefts), slices.Min(rights), count
}

func (m *modelFloats) add(low, high int, right bool, w, h, from int) (x, y int) {
	if len(m.all) == api.MaxItems {
		return 0, 0
	}
	w, h = max(w, 0), max(h, 0)
	for y = from; ; y++ {
		if slices.ContainsFunc(m.all, func(f Float) bool { return y < f.Rect.Y }) {
			continue
		}
		l, r, count := m.between(low, high, y, h)
		if count > 0 && w > r-l {
			continue
		}
		x = l
		if right {
			x = r - w
		}
		m.all = append(m.all, Float{right, api.Rect{X: x, Y: y, W: w, H: h}})
		return x, y
	}
}

func (m *modelFloats) drop(low, high, w, y int) (left, at int) {
	for ; ; y++ {
		if l, r, count := m.between(low, high, y, 1); count == 0 || w <= r-l {
			return l, y
		}
	}
}

func (m *modelFloats) clear(left, right bool) int {
	var ends []int
	for _, f := range m.all {
		if f.Right && right || !f.Right && left {
			ends = append(ends, f.Rect.Y+f.Rect.H)
		}
	}
	if ends == nil {
		return 0
	}
	return slices.Max(ends)
}

// likely: a float begins at from, or where one ahead begins or ends.
func likely(ahead []Float, from, y int) bool {
	return y == from || slices.ContainsFunc(ahead, func(f Float) bool {
		return y == f.Rect.Y || y == f.Rect.Y+max(f.Rect.H, 1)
	})
}

// room of the same floats, told both ways.
type room struct {
	f         *Floats
	low, high int
}

// walk adds floats made by chance in rooms made by chance, and asks both tellings.
func walk(t *testing.T, c *rand.Rand, steps int) {
	t.Helper()
	width := c.Intn(40) - 3
	m := &modelFloats{}
	rooms := []room{{New(width), 0, width}}
	for range steps {
		r := rooms[c.Intn(len(rooms))]
		right, w, h, from := c.Intn(2) > 0, c.Intn(20)-2, c.Intn(8)-2, c.Intn(30)-10
		x, y := r.f.Add(right, w, h, from)
		if wantX, wantY := m.add(r.low, r.high, right, w, h, from); x != wantX || y != wantY {
			t.Fatalf("in %d to %d, %v, %d by %d from %d on: %d, %d, want %d, %d; all: %+v", r.low, r.high, right, w, h, from, x, y, wantX, wantY, m.all)
		}
		if n := len(m.all) - 1; n >= 0 && n < api.MaxItems-1 && !likely(m.all[:n], from, y) {
			t.Fatalf("%d is no likely height: %+v", y, m.all)
		}
		if c.Intn(4) == 0 {
			low, high := c.Intn(50)-10, c.Intn(50)-10
			rooms = append(rooms, room{r.f.In(low, high), low, high})
		}
		ask(t, c, m, rooms[c.Intn(len(rooms))])
	}
}

// ask a room what the second telling says of it.
func ask(t *testing.T, c *rand.Rand, m *modelFloats, r room) {
	t.Helper()
	y, h := c.Intn(60)-20, c.Intn(12)-3
	l, e := r.f.Edges(y, h)
	if wantL, wantE, _ := m.between(r.low, r.high, y, h); l != wantL || e != wantE {
		t.Fatalf("in %d to %d, from %d on, %d high: %d, %d, want %d, %d; all: %+v", r.low, r.high, y, h, l, e, wantL, wantE, m.all)
	}
	w := c.Intn(40) - 5
	l, at := r.f.Drop(w, y)
	if wantL, wantAt := m.drop(r.low, r.high, w, y); l != wantL || at != wantAt {
		t.Fatalf("in %d to %d, %d wide from %d on: %d, %d, want %d, %d; all: %+v", r.low, r.high, w, y, l, at, wantL, wantAt, m.all)
	}
	left, right := c.Intn(2) > 0, c.Intn(2) > 0
	if got, want := r.f.Clear(left, right), m.clear(left, right); got != want {
		t.Fatalf("clear %v %v: %d, want %d; all: %+v", left, right, got, want, m.all)
	}
	if got := r.f.All(); !slices.Equal(got, m.all) {
		t.Fatalf("%+v, want %+v", got, m.all)
	}
}

// P91: floats made by chance lie where the second telling says.
func TestModelFloats(t *testing.T) {
	c := rand.New(rand.NewSource(9))
	for range 8000 {
		walk(t, c, 2+c.Intn(14))
	}
	for range 4 {
		walk(t, c, api.MaxItems+3)
	}
}

func FuzzFloats(f *testing.F) {
	for n := range int64(20) {
		f.Add(n, uint8(n))
	}
	f.Fuzz(func(t *testing.T, seed int64, steps uint8) {
		walk(t, rand.New(rand.NewSource(seed)), int(steps))
	})
}

// modelWidth: one time, as P92 says it.
func modelWidth(w Width) (left, inner, right int) {
	left, right = w.Left, w.Right
	if w.AutoInner {
		if w.AutoLeft {
			left = 0
		}
		if w.AutoRight {
			right = 0
		}
		return left, max(0, w.Room-left-w.Around-right), right
	}
	inner = w.Inner
	switch {
	case w.AutoLeft && w.AutoRight:
		both := w.Room - inner - w.Around
		if both < 0 {
			return 0, inner, both
		}
		return both / 2, inner, both - both/2
	case w.AutoLeft:
		return w.Room - inner - w.Around - right, inner, right
	}
	return left, inner, w.Room - inner - w.Around - left
}

func modelWidths(w Width) [3]int {
	left, inner, right := modelWidth(w)
	if w.Max >= 0 && inner > w.Max {
		w.Inner, w.AutoInner = w.Max, false
		left, inner, right = modelWidth(w)
	}
	if w.Min < 0 {
		w.Min = 0
	}
	if inner < w.Min {
		w.Inner, w.AutoInner = w.Min, false
		left, inner, right = modelWidth(w)
	}
	return [3]int{left, inner, right}
}

// modelFixed: one time, as P93 says it.
func modelFixed(f Fixed) (from, left, inner, right int) {
	left, inner, right = f.Left, f.Inner, f.Right
	if f.AutoLeft {
		left = 0
	}
	if f.AutoRight {
		right = 0
	}
	if f.AutoInner && (f.AutoFrom || f.AutoTo) {
		inner = f.Fit
	} else if f.AutoInner {
		inner = max(0, f.Room-f.From-left-f.Around-right-f.To)
	}
	from = f.From
	if f.AutoFrom && f.AutoTo {
		from = f.At
	} else if f.AutoFrom {
		from = f.Room - left - inner - f.Around - right - f.To
	}
	if f.AutoFrom || f.AutoTo || f.AutoInner {
		return from, left, inner, right
	}
	rest := f.Room - f.From - left - inner - f.Around - right - f.To
	if f.AutoLeft && f.AutoRight && rest < 0 {
		right = rest
	} else if f.AutoLeft && f.AutoRight {
		left, right = rest/2, (rest+1)/2
	} else if f.AutoLeft {
		left = rest
	} else if f.AutoRight {
		right = rest
	}
	return from, left, inner, right
}

func modelFixeds(f Fixed) [4]int {
	from, left, inner, right := modelFixed(f)
	if f.Max >= 0 && inner > f.Max {
		f.Inner, f.AutoInner = f.Max, false
		from, left, inner, right = modelFixed(f)
	}
	if f.Min < 0 {
		f.Min = 0
	}
	if inner < f.Min {
		f.Inner, f.AutoInner = f.Min, false
		from, left, inner, right = modelFixed(f)
	}
	return [4]int{from, left, inner, right}
}

// P92 and P93: numbers made by chance are solved as the second telling says.
func TestModelWidths(t *testing.T) {
	c := rand.New(rand.NewSource(92))
	coin := func() bool { return c.Intn(2) > 0 }
	for range 300000 {
		w := Width{AutoLeft: coin(), AutoInner: coin(), AutoRight: coin()}
		for _, n := range widthNumbers(&w) {
			*n = c.Intn(24) - 6
		}
		w.Room += c.Intn(40)
		left, inner, right := w.Solve()
		if got, want := [3]int{left, inner, right}, modelWidths(w); got != want {
			t.Fatalf("%+v: %v, want %v", w, got, want)
		}
		f := Fixed{AutoFrom: coin(), AutoTo: coin(), AutoLeft: coin(), AutoInner: coin(), AutoRight: coin()}
		for _, n := range fixedNumbers(&f) {
			*n = c.Intn(24) - 6
		}
		f.Room += c.Intn(60)
		from, left, inner, right := f.Solve()
		if got, want := [4]int{from, left, inner, right}, modelFixeds(f); got != want {
			t.Fatalf("%+v: %v, want %v", f, got, want)
		}
	}
}
