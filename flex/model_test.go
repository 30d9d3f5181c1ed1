package flex

import (
	"math/big"
	"math/rand"
	"slices"
	"testing"

	"casement/api"
)

// A second telling, in numbers of any size: rows by trying how many items fit, the most first; shares by the sums that the document writes down, each of them made anew.

func modelClamp(n, low, high int) int {
	return slices.Max([]int{low, slices.Min([]int{n, high})})
}

func modelLength(n int) int {
	return modelClamp(n, -api.MaxLen, api.MaxLen)
}

// modelItems: those that count, as they count; a Max that is none is greater than anything.
func modelItems(l []Item) []Item {
	var out []Item
	for n, i := range l {
		if n == api.MaxItems {
			break
		}
		i = Item{max(modelLength(i.Base), 0), max(modelLength(i.Min), 0), modelLength(i.Max), modelLength(i.Around), modelClamp(i.Grow, 0, most), modelClamp(i.Shrink, 0, most)}
		if i.Max < 0 {
			i.Max = 1 << 60
		}
		out = append(out, i)
	}
	return out
}

func modelWants(l []Item, gap int) int {
	sum := 0
	for n, i := range l {
		sum += modelClamp(i.Base, i.Min, i.Max) + i.Around
		if n > 0 {
			sum += gap
		}
	}
	return sum
}

func modelRows(l []Item, room, gap int, wrap bool) []int {
	l, room, gap = modelItems(l), modelLength(room), modelLength(gap)
	if len(l) > 0 && !wrap {
		return []int{len(l)}
	}
	var out []int
	for len(l) > 0 {
		count := 1
		for count < len(l) && modelWants(l[:count+1], gap) <= room {
			count++
		}
		out = append(out, count)
		l = l[count:]
	}
	return out
}

// modelOver: a times b over c, rounded down, or nearer to 0.
func modelOver(a, b, c int, down bool) int {
	n := new(big.Int).Mul(big.NewInt(int64(a)), big.NewInt(int64(b)))
	if down {
		return int(n.Div(n, big.NewInt(int64(c))).Int64())
	}
	return int(n.Quo(n, big.NewInt(int64(c))).Int64())
}

// modelSum: of the weights of those that are not settled, those of the first k together.
func modelSum(weights []int, settled map[int]int, upTo int) int {
	sum := 0
	for n, w := range weights[:upTo] {
		if _, ok := settled[n]; !ok {
			sum += w
		}
	}
	return sum
}

func modelFree(l []Item, room, gap int, settled map[int]int) int {
	free := room
	for n, i := range l {
		free -= i.Around
		if n > 0 {
			free -= gap
		}
		if w, ok := settled[n]; ok {
			free -= w
		} else {
			free -= i.Base
		}
	}
	return free
}

// modelAmount: `a` of P101.
func modelAmount(free, start, factors int) int {
	if factors >= 1000 {
		return free
	}
	some := big.NewInt(int64(modelOver(start, factors, 1000, false)))
	if some.CmpAbs(big.NewInt(int64(free))) < 0 {
		return int(some.Int64())
	}
	return free
}

func modelShare(l []Item, room, gap int) []int {
	l, room, gap = modelItems(l), modelLength(room), modelLength(gap)
	grow := modelWants(l, gap) < room
	settled := map[int]int{}
	var factors, weights []int
	for n, i := range l {
		within := modelClamp(i.Base, i.Min, i.Max)
		if grow {
			factors, weights = append(factors, i.Grow), append(weights, i.Grow)
		} else {
			factors, weights = append(factors, i.Shrink), append(weights, i.Shrink*i.Base)
		}
		if factors[n] == 0 || grow && i.Base > within || !grow && i.Base < within {
			settled[n] = within
		}
	}
	start := modelFree(l, room, gap, settled)
	for len(settled) < len(l) {
		a := modelAmount(modelFree(l, room, gap, settled), start, modelSum(factors, settled, len(l)))
		all := modelSum(weights, settled, len(l))
		sizes, gained, together := map[int]int{}, map[int]int{}, 0
		for n, i := range l {
			if _, ok := settled[n]; ok {
				continue
			}
			w := i.Base
			if all > 0 {
				w += modelOver(a, modelSum(weights, settled, n+1), all, true) - modelOver(a, modelSum(weights, settled, n), all, true)
			}
			sizes[n] = modelClamp(w, i.Min, i.Max)
			gained[n] = sizes[n] - w
			together += gained[n]
		}
		for n, w := range sizes {
			if together == 0 || together > 0 && gained[n] > 0 || together < 0 && gained[n] < 0 {
				settled[n] = w
			}
		}
	}
	var out []int
	for n := range l {
		out = append(out, settled[n])
	}
	return out
}

func modelSpread(l []int, room, gap, how int) []int {
	l = l[:min(len(l), api.MaxItems)]
	n := len(l)
	left := modelLength(room) - modelLength(gap)*(n-1)
	for _, w := range l {
		left -= modelLength(w)
	}
	var out []int
	at := 0
	for k, w := range l {
		x := 0
		switch {
		case how == 1:
			x = left
		case how == 2:
			x = modelOver(left, 1, 2, true)
		case how == 3 && left >= 0 && n > 1:
			x = modelOver(left, k, n-1, true)
		case how == 4 && left >= 0:
			x = modelOver(left, 2*k+1, 2*n, true)
		case how == 5 && left >= 0:
			x = modelOver(left, k+1, n+1, true)
		}
		out = append(out, at+x)
		at += modelLength(w) + modelLength(gap)
	}
	return out
}

// number of one of several kinds: small ones, those about a bound, great ones.
func number(pick func(n int) int) int {
	switch pick(12) {
	case 0:
		return -pick(30)
	case 1:
		return pick(2*api.MaxLen) - api.MaxLen/2
	case 2:
		return (pick(3) - 1) * (api.MaxLen + pick(3) - 1)
	case 3:
		return 0
	}
	return pick(60)
}

// share: a factor, mostly of less than 2.
func share(pick func(n int) int) int {
	switch pick(8) {
	case 0:
		return 0
	case 1:
		return most - 2 + pick(5)
	case 2:
		return pick(5) - 2
	case 3, 4:
		return 1000 * pick(4)
	}
	return pick(900)
}

func made(pick func(n int) int) (l []Item, room, gap int) {
	for range pick(8) {
		i := Item{number(pick), number(pick), number(pick), number(pick), share(pick), share(pick)}
		if pick(2) > 0 {
			i.Min = 0
		}
		if pick(2) > 0 {
			i.Max = -1
		}
		if pick(3) > 0 {
			i.Around = 0
		}
		l = append(l, i)
	}
	if pick(2) > 0 {
		gap = number(pick)
	}
	room = number(pick)
	if pick(3) > 0 {
		room = modelWants(modelItems(l), gap) + pick(120) - 60
	}
	return l, room, gap
}

func wantModel(t *testing.T, l []Item, room, gap int) {
	t.Helper()
	if got, want := Share(l, room, gap), modelShare(l, room, gap); !slices.Equal(got, want) {
		t.Errorf("%+v shares %d, gap %d: %v, want %v", l, room, gap, got, want)
	}
	for _, wrap := range []bool{false, true} {
		if got, want := Rows(l, room, gap, wrap), modelRows(l, room, gap, wrap); !slices.Equal(got, want) {
			t.Errorf("%+v in rows of %d, gap %d, %v: %v, want %v", l, room, gap, wrap, got, want)
		}
	}
	var widths []int
	for _, i := range l {
		widths = append(widths, i.Base)
	}
	for how := -1; how < 7; how++ {
		if got, want := Spread(widths, room, gap, how), modelSpread(widths, room, gap, how); !slices.Equal(got, want) {
			t.Errorf("%v in %d, gap %d, %d: %v, want %v", widths, room, gap, how, got, want)
		}
	}
}

// Rows that are made by chance are what the second telling says.
func TestModel(t *testing.T) {
	r := rand.New(rand.NewSource(10))
	for range 40000 {
		l, room, gap := made(r.Intn)
		wantModel(t, l, room, gap)
		if t.Failed() {
			return
		}
	}
}

// Long rows likewise, also too long ones.
func TestModelLong(t *testing.T) {
	r := rand.New(rand.NewSource(11))
	for range 60 {
		var l []Item
		for count := r.Intn(api.MaxItems + 20); len(l) < count; {
			some, _, _ := made(r.Intn)
			l = append(l, some...)
		}
		gap := r.Intn(5)
		wantModel(t, l, modelWants(modelItems(l), gap)+r.Intn(6000)-3000, gap)
		if t.Failed() {
			return
		}
	}
}

// What is shared is all that there is, if the factors are enough and nobody is held.
func TestShareAll(t *testing.T) {
	r := rand.New(rand.NewSource(12))
	for range 5000 {
		var l []Item
		bases := 0
		for range 1 + r.Intn(10) {
			i := item(1+r.Intn(50), 1000+r.Intn(3000), 1000+r.Intn(3000))
			bases += i.Base
			l = append(l, i)
		}
		room, sum := bases+r.Intn(500), 0
		for _, w := range Share(l, room, 0) {
			sum += w
		}
		if sum != room {
			t.Fatalf("%+v shares %d: %d together", l, room, sum)
		}
	}
}

func FuzzShare(f *testing.F) {
	f.Add([]byte("as wide as a row may be, and as narrow"))
	f.Add([]byte{7, 200, 3, 0, 90, 1, 1, 1, 250, 250, 4, 5, 6, 12, 90, 31})
	f.Fuzz(func(t *testing.T, data []byte) {
		at := 0
		l, room, gap := made(func(n int) int {
			// three bytes a number: enough for those that a length may be
			number := 0
			for range 3 {
				if at < len(data) {
					number = number<<8 | int(data[at])
					at++
				}
			}
			return number % n
		})
		wantModel(t, l, room, gap)
	})
}
