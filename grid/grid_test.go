package grid_test

import (
	"math"
	"math/big"
	"slices"
	"strconv"
	"testing"

	"sediment/grid"
)

const (
	least    = math.MinInt
	greatest = math.MaxInt
)

// want holds an answer against what is wanted.
func want[T comparable](t *testing.T, what string, got, wanted T) {
	t.Helper()
	if got != wanted {
		t.Errorf("%s: %v, not %v", what, got, wanted)
	}
}

// wantGrid holds what Floor and Ceil tell of at against what is wanted.
func wantGrid(t *testing.T, at, every, floor, ceil int) {
	t.Helper()
	what := of(at, every)
	want(t, "Floor "+what, grid.Floor(at, every), floor)
	want(t, "Ceil "+what, grid.Ceil(at, every), ceil)
}

// wantStarts holds what Starts tells against the list that is wanted, or against false.
func wantStarts(t *testing.T, from, to, every, most int, is bool, l ...int) {
	t.Helper()
	got, ok := grid.Starts(from, to, every, most)
	if ok != is || !slices.Equal(got, l) {
		t.Errorf("Starts %s: %v, %v, not %v, %v", of(from, to, every, most), got, ok, l, is)
	}
}

// of tells numbers, for a failure's text.
func of(v ...int) string {
	s := "of"
	for _, x := range v {
		s += " " + strconv.Itoa(x)
	}
	return s
}

// ends are numbers near those where something turns.
func ends() []int {
	var l []int
	for _, mid := range []int{least + 5, least / 2, -1 << 40, -1000, 0, 1000, 1 << 40, greatest / 2, greatest - 5} {
		for i := -5; i <= 5; i++ {
			l = append(l, mid+i)
		}
	}
	return l
}

// steps are those of ends that may be the ticks of a bucket.
func steps() []int {
	return slices.DeleteFunc(ends(), func(x int) bool { return x < 1 })
}

// floor is the greatest multiple that is not above at, reckoned with numbers of any length, of those that are ints.
func floor(at, every int) int {
	e, b := big.NewInt(int64(every)), big.NewInt(int64(at))
	m := new(big.Int).Sub(b, new(big.Int).Mod(b, e))
	if !m.IsInt64() {
		m.Add(m, e)
	}
	return int(m.Int64())
}

// ceil is the least multiple that is not below at, reckoned likewise.
func ceil(at, every int) int {
	e, b := big.NewInt(int64(every)), big.NewInt(int64(at))
	m := new(big.Int).Add(b, new(big.Int).Mod(new(big.Int).Neg(b), e))
	if !m.IsInt64() {
		m.Sub(m, e)
	}
	return int(m.Int64())
}

// multiples is how many multiples of every there are from from on, below to.
func multiples(from, to, every int) *big.Int {
	e := big.NewInt(int64(every))
	n := new(big.Int).Sub(ahead(to, e), ahead(from, e))
	if n.Sign() < 0 {
		return new(big.Int)
	}
	return n
}

// ahead is how many multiples of e stand from 0 on below at; below 0 of an at below 0.
func ahead(at int, e *big.Int) *big.Int {
	b := new(big.Int).Add(big.NewInt(int64(at)), e)
	b.Sub(b, big.NewInt(1))
	q, _ := new(big.Int).DivMod(b, e, new(big.Int))
	return q
}

func TestP401FloorAndCeil(t *testing.T) {
	want(t, "the example of Floor", grid.Floor(-1, 10), -10)
	want(t, "the example of Ceil", grid.Ceil(11, 10), 20)
	wantGrid(t, 0, 7, 0, 0)
	wantGrid(t, 1, 7, 0, 7)
	wantGrid(t, 6, 7, 0, 7)
	wantGrid(t, 7, 7, 7, 7)
	wantGrid(t, 8, 7, 7, 14)
	wantGrid(t, -1, 7, -7, 0)
	wantGrid(t, -6, 7, -7, 0)
	wantGrid(t, -7, 7, -7, -7)
	wantGrid(t, -8, 7, -14, -7)
	wantGrid(t, 57, 1, 57, 57)
	wantGrid(t, -57, 1, -57, -57)
	wantGrid(t, 5, 1000, 0, 1000)
	wantGrid(t, -5, 1000, -1000, 0)
	for _, at := range ends() {
		for _, every := range steps() {
			wantGrid(t, at, every, floor(at, every), ceil(at, every))
		}
	}
}

func TestP401OffTheGrid(t *testing.T) {
	for _, at := range ends() {
		for _, every := range []int{0, -1, -3, -10, least, -greatest} {
			wantGrid(t, at, every, at, at)
		}
	}
}

func TestP401WhereItIsNoInt(t *testing.T) {
	wantGrid(t, least, 10, least+8, least+8)
	wantGrid(t, least+7, 10, least+8, least+8)
	wantGrid(t, least+8, 10, least+8, least+8)
	wantGrid(t, least+9, 10, least+8, least+18)
	wantGrid(t, greatest, 10, greatest-7, greatest-7)
	wantGrid(t, greatest-6, 10, greatest-7, greatest-7)
	wantGrid(t, greatest-7, 10, greatest-7, greatest-7)
	wantGrid(t, greatest-8, 10, greatest-17, greatest-7)
	wantGrid(t, least, greatest, -greatest, -greatest)
	wantGrid(t, -greatest, greatest, -greatest, -greatest)
	wantGrid(t, greatest, greatest, greatest, greatest)
	wantGrid(t, -1, greatest, -greatest, 0)
	wantGrid(t, 1, greatest, 0, greatest)
	wantGrid(t, least, greatest-1, -greatest+1, -greatest+1)
	wantGrid(t, greatest, greatest-1, greatest-1, greatest-1)
	wantGrid(t, least, 1, least, least)
	wantGrid(t, greatest, 1, greatest, greatest)
	wantGrid(t, least, 2, least, least)
	wantGrid(t, greatest, 2, greatest-1, greatest-1)
	wantGrid(t, least, 1<<62, least, least)
	wantGrid(t, greatest, 1<<62, 1<<62, 1<<62)
	wantGrid(t, least, 1<<62+1, -1<<62-1, -1<<62-1)
}

func TestP401OnAndDivides(t *testing.T) {
	yes := []struct{ a, b int }{{1, 0}, {1, 7}, {7, 7}, {7, -7}, {7, 0}, {5, -10}, {3, -3}, {3, 12}, {2, least}, {1, least}, {1, greatest}, {greatest, greatest}, {greatest, -greatest}, {greatest, 0}}
	for _, x := range yes {
		want(t, "Divides "+of(x.a, x.b), grid.Divides(x.a, x.b), true)
		want(t, "On "+of(x.b, x.a), grid.On(x.b, x.a), true)
	}
	no := []struct{ a, b int }{{0, 0}, {0, 7}, {-2, 4}, {-1, 0}, {-1, least}, {-7, -7}, {least, least}, {least, 0}, {5, 7}, {7, 5}, {7, 6}, {7, 8}, {7, -6}, {7, -8}, {greatest, least}, {greatest, 1}, {2, greatest}}
	for _, x := range no {
		want(t, "Divides "+of(x.a, x.b), grid.Divides(x.a, x.b), false)
		want(t, "On "+of(x.b, x.a), grid.On(x.b, x.a), false)
	}
	for _, at := range ends() {
		for _, every := range ends() {
			is := every >= 1 && floor(at, every) == at
			want(t, "On "+of(at, every), grid.On(at, every), is)
			want(t, "Divides "+of(every, at), grid.Divides(every, at), is)
		}
	}
}

func TestP402Starts(t *testing.T) {
	wantStarts(t, 3, 31, 10, 3, true, 10, 20, 30)
	wantStarts(t, 3, 30, 10, 3, true, 10, 20)
	wantStarts(t, 10, 31, 10, 3, true, 10, 20, 30)
	wantStarts(t, 11, 31, 10, 3, true, 20, 30)
	wantStarts(t, -5, 1, 5, 9, true, -5, 0)
	wantStarts(t, -11, -4, 5, 9, true, -10, -5)
	wantStarts(t, -2, 3, 1, 9, true, -2, -1, 0, 1, 2)
	wantStarts(t, 0, 1, 10, 1, true, 0)
	wantStarts(t, 1, 10, 10, 1, true)
	wantStarts(t, 1, 11, 10, 1, true, 10)
	wantStarts(t, 5, 5, 1, 9, true)
	wantStarts(t, 10, 10, 10, 9, true)
	wantStarts(t, 9, 5, 1, 9, true)
	wantStarts(t, greatest, least, 1, 9, true)
}

func TestP402NoneAtAll(t *testing.T) {
	wantStarts(t, 3, 31, 10, 2, false)
	wantStarts(t, 0, 1, 1, 0, false)
	wantStarts(t, 0, 1000001, 1, 1000000, false)
	wantStarts(t, least, greatest, 1, greatest, false)
	wantStarts(t, least, greatest, 1, 0, false)
	wantStarts(t, least, greatest, 2, greatest, false)
	wantStarts(t, least, 0, 1, greatest, false)
	for _, every := range []int{0, -1, -5, least} {
		wantStarts(t, 0, 9, every, 9, false)
		wantStarts(t, 9, 0, every, 9, false)
		wantStarts(t, 5, 5, every, 0, false)
	}
	for _, most := range []int{-1, -7, least} {
		wantStarts(t, 0, 9, 1, most, false)
		wantStarts(t, 9, 0, 1, most, false)
		wantStarts(t, 5, 5, 1, most, false)
		wantStarts(t, 1, 10, 10, most, false)
	}
	wantStarts(t, 5, 5, 1, 0, true)
	wantStarts(t, 1, 10, 10, 0, true)
	wantStarts(t, 9, 0, 1, 0, true)
}

func TestP402StartsAtTheEnds(t *testing.T) {
	wantStarts(t, greatest-3, greatest, 4, 9, true, greatest-3)
	wantStarts(t, greatest-2, greatest, 2, 9, true, greatest-1)
	wantStarts(t, greatest-2, greatest, 1, 9, true, greatest-2, greatest-1)
	wantStarts(t, greatest-6, greatest, 10, 0, true) // the multiple behind is no int
	wantStarts(t, greatest-7, greatest, 10, 1, true, greatest-7)
	wantStarts(t, greatest, greatest, 10, 0, true)
	wantStarts(t, least, least+8, 10, 9, true)
	wantStarts(t, least, least+9, 10, 9, true, least+8)
	wantStarts(t, least, least+3, 1, 9, true, least, least+1, least+2)
	wantStarts(t, least, least+1, 2, 9, true, least)
	wantStarts(t, least, least, 1, 0, true)
	wantStarts(t, 0, least, 1, 0, true)
	wantStarts(t, 1, 7, greatest, 3, true)
	wantStarts(t, 0, greatest, greatest, 1, true, 0)
	wantStarts(t, least, greatest, greatest, 2, true, -greatest, 0)
	wantStarts(t, least, greatest, greatest, 1, false)
	wantStarts(t, least, greatest, 1<<62, 4, true, least, -1<<62, 0, 1<<62)
	wantStarts(t, least, greatest, 1<<62, 3, false)
}

func TestP402StartsAreTheMultiples(t *testing.T) {
	const most = 5
	for _, from := range ends() {
		for _, to := range ends() {
			for _, every := range []int{1, 2, 3, 7, 1000, 1 << 41, greatest / 2, greatest - 1, greatest} {
				n := multiples(from, to, every)
				if n.Cmp(big.NewInt(most)) > 0 {
					wantStarts(t, from, to, every, most, false)
					continue
				}
				var l []int
				for i := range int(n.Int64()) {
					l = append(l, ceil(from, every)+i*every)
				}
				wantStarts(t, from, to, every, most, true, l...)
				wantStarts(t, from, to, every, len(l), true, l...)
				wantStarts(t, from, to, every, len(l)-1, false)
			}
		}
	}
}

func TestP402StartsOneByOne(t *testing.T) {
	for from := -20; from <= 20; from++ {
		for to := -20; to <= 20; to++ {
			for every := 1; every <= 12; every++ {
				var l []int
				for at := from; at < to; at++ {
					if at%every == 0 {
						l = append(l, at)
					}
				}
				wantStarts(t, from, to, every, 50, true, l...)
			}
		}
	}
}

func TestP402AnAnswerIsNew(t *testing.T) {
	first, _ := grid.Starts(0, 30, 10, 9)
	second, _ := grid.Starts(0, 30, 10, 9)
	first[0], first[2] = 7, 7
	want(t, "what is answered later", slices.Equal(second, []int{0, 10, 20}), true)
	wantStarts(t, 0, 30, 10, 9, true, 0, 10, 20)
}

func TestP403Back(t *testing.T) {
	want(t, "the example", grid.Back(57, 20, 10), 30)
	cases := []struct{ now, keep, every, back int }{
		{5, 20, 10, 0}, {20, 20, 10, 0}, {29, 20, 10, 0}, {30, 20, 10, 10}, {39, 20, 10, 10}, {40, 20, 10, 20},
		{0, 0, 1, 0}, {0, 5, 1, 0}, {57, 0, 1, 57}, {57, 0, 10, 50}, {57, 57, 1, 0}, {57, 56, 1, 1}, {57, 58, 1, 0},
		{7, 0, 100, 0}, {107, 0, 100, 100},
		{greatest, 0, 1, greatest}, {greatest, 0, 10, greatest - 7}, {greatest, greatest, 3, 0}, {0, greatest, 3, 0},
		{greatest, 1, greatest, 0}, {greatest, 0, greatest, greatest}, {1, greatest, greatest, 0},
		{1 << 40, 1000000, 60, (1<<40 - 1000000) / 60 * 60},
	}
	for _, c := range cases {
		want(t, "Back "+of(c.now, c.keep, c.every), grid.Back(c.now, c.keep, c.every), c.back)
	}
}

func TestP403OfTheWrong(t *testing.T) {
	wrong := []struct{ now, keep, every int }{
		{-1, 0, 1}, {-1, 5, 1}, {least, 0, 1}, {least, greatest, 3}, {-1, least, 1}, {least, least, 1},
		{1, -1, 1}, {57, -20, 10}, {greatest, least, 1}, {0, -1, 1}, {greatest, -1, 10},
		{9, 1, 0}, {57, 20, -10}, {57, 20, least}, {greatest, 0, 0}, {57, 0, -1}, {-9, -9, -9},
	}
	for _, c := range wrong {
		want(t, "Back "+of(c.now, c.keep, c.every), grid.Back(c.now, c.keep, c.every), 0)
	}
}

func TestP403IsThatOfTheFloor(t *testing.T) {
	for _, now := range ends() {
		for _, keep := range ends() {
			for _, every := range []int{least, -1, 0, 1, 2, 7, 1000, 1 << 40, greatest - 1, greatest} {
				back := 0
				if now >= 0 && keep >= 0 && every >= 1 && now > keep {
					back = floor(now-keep, every)
				}
				want(t, "Back "+of(now, keep, every), grid.Back(now, keep, every), back)
			}
		}
	}
}

func TestP404OnTheGridAndNear(t *testing.T) {
	for _, at := range ends() {
		for _, every := range steps() {
			for _, m := range []int{grid.Floor(at, every), grid.Ceil(at, every)} {
				away := new(big.Int).Sub(big.NewInt(int64(at)), big.NewInt(int64(m)))
				want(t, "on the grid "+of(at, every), grid.On(m, every), true)
				want(t, "near "+of(at, every), away.CmpAbs(big.NewInt(int64(every))) < 0, true)
				want(t, "Floor of what is on the grid "+of(at, every), grid.Floor(m, every), m)
				want(t, "Ceil of what is on the grid "+of(at, every), grid.Ceil(m, every), m)
			}
		}
	}
}

func TestP404BackDoesNotFall(t *testing.T) {
	for _, keep := range []int{-1, 0, 1, 7, 20, 1000, greatest} {
		for _, every := range []int{-1, 0, 1, 2, 7, 10, 1000, greatest} {
			last := 0
			for now := -30; now <= 300; now++ {
				back := grid.Back(now, keep, every)
				want(t, "not below the last one "+of(now, keep, every), back >= last, true)
				last = back
			}
			for _, now := range ends() { // they rise
				if now <= 300 {
					continue
				}
				back := grid.Back(now, keep, every)
				want(t, "not below the last one "+of(now, keep, every), back >= last, true)
				last = back
			}
		}
	}
}
