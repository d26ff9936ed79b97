package agg_test

import (
	"encoding/binary"
	"math"
	"math/big"
	"slices"
	"strconv"
	"strings"
	"testing"

	"sediment/agg"
	"sediment/api"
)

const (
	least    = math.MinInt
	greatest = math.MaxInt
	full     = 1 << 62 // the greatest Count
)

// want holds an answer against what is wanted.
func want[T comparable](t *testing.T, what string, got, wanted T) {
	t.Helper()
	if got != wanted {
		t.Errorf("%s: %v, not %v", what, got, wanted)
	}
}

// wantSum holds what Sum and Mean tell of a against what is wanted.
func wantSum(t *testing.T, what string, a api.Agg, sum int, over bool, mean int) {
	t.Helper()
	s, o := agg.Sum(a)
	if s != sum || o != over {
		t.Errorf("%s: Sum is %d, %v, not %d, %v", what, s, o, sum, over)
	}
	if m := agg.Mean(a); m != mean {
		t.Errorf("%s: Mean is %d, not %d", what, m, mean)
	}
}

// wantPut holds what Put tells of a against what is wanted.
func wantPut(t *testing.T, what string, a api.Agg, b string, e api.Errno) {
	t.Helper()
	got, bad := agg.Put(a)
	if got != b || bad != e {
		t.Errorf("%s: Put is %x, %d, not %x, %d", what, got, bad, b, e)
	}
}

// wantGet holds what Get tells of b against what is wanted.
func wantGet(t *testing.T, what, b string, a api.Agg, e api.Errno) {
	t.Helper()
	got, bad := agg.Get(b)
	if got != a || bad != e {
		t.Errorf("%s: Get is %v, %d, not %v, %d", what, got, bad, a, e)
	}
}

// wrongs are such as are not valid.
func wrongs() []api.Agg {
	return []api.Agg{
		{},
		{Count: 0, Lo: 5, Min: 5, Max: 5},
		{Count: -1, Lo: 5, Min: 5, Max: 5},
		{Count: least, Lo: 5, Min: 5, Max: 5},
		{Count: full + 1, Lo: 5, Min: 5, Max: 5},
		{Count: greatest, Lo: 5, Min: 5, Max: 5},
		{Count: 1, Lo: 5, Min: 6, Max: 5},
		{Count: 7, Lo: 5, Min: greatest, Max: least},
		{Count: -3, Hi: -9, Lo: 7, Min: 2, Max: 1},
	}
}

// rights are such as are valid, those too that are of no values.
func rights() []api.Agg {
	return []api.Agg{
		{Count: 1},
		{Count: 1, Lo: 5, Min: 5, Max: 5},
		{Count: 2, Hi: -1, Lo: math.MaxUint64, Min: -3, Max: 2},
		{Count: 1, Hi: 99, Lo: 5, Min: -1, Max: 1},
		{Count: 5, Hi: -7, Lo: 1 << 63, Min: -9, Max: -9},
		{Count: 3, Hi: least, Lo: 0, Min: least, Max: least},
		{Count: 4, Hi: greatest, Lo: math.MaxUint64, Min: greatest, Max: greatest},
		{Count: full - 1, Hi: greatest, Lo: math.MaxUint64, Min: -2, Max: 2},
		{Count: full, Hi: 0, Lo: 1, Min: least, Max: greatest},
	}
}

// row makes numbers that look like any, always the same ones.
type row uint64

func (r *row) next() int {
	*r = *r*6364136223846793005 + 1442695040888963407
	return int(*r >> 33)
}

// value is one near the ends, near 0, or anywhere.
func (r *row) value() int {
	switch r.next() % 4 {
	case 0:
		return least + r.next()%3
	case 1:
		return greatest - r.next()%3
	case 2:
		return r.next()%9 - 4
	}
	return r.next()<<40 ^ r.next()<<20 ^ r.next()
}

func (r *row) values(most int) []int {
	var l []int
	for range r.next() % (most + 1) {
		l = append(l, r.value())
	}
	return l
}

// plain is the aggregate of values as it is reckoned with numbers of any length.
func plain(v []int) api.Agg {
	if len(v) == 0 {
		return api.Agg{}
	}
	sum := new(big.Int)
	for _, x := range v {
		sum.Add(sum, big.NewInt(int64(x)))
	}
	hi, lo := new(big.Int).DivMod(sum, new(big.Int).Lsh(big.NewInt(1), 64), new(big.Int))
	return api.Agg{Count: len(v), Hi: int(hi.Int64()), Lo: lo.Uint64(), Min: slices.Min(v), Max: slices.Max(v)}
}

func TestP301Valid(t *testing.T) {
	for _, a := range wrongs() {
		want(t, "a wrong one", agg.Valid(a), false)
	}
	for _, a := range rights() {
		want(t, "a right one", agg.Valid(a), true)
	}
	want(t, "none", agg.Valid(agg.Of()), false)
	want(t, "that of a value", agg.Valid(agg.Of(0)), true)
	want(t, "of 2^62", agg.Valid(api.Agg{Count: full}), true)
	want(t, "of one more", agg.Valid(api.Agg{Count: full + 1}), false)
}

func TestP301Of(t *testing.T) {
	want(t, "no values", agg.Of(), api.Agg{})
	want(t, "a nil list", agg.Of([]int(nil)...), api.Agg{})
	want(t, "0", agg.Of(0), api.Agg{Count: 1})
	want(t, "one above 0", agg.Of(5), api.Agg{Count: 1, Lo: 5, Min: 5, Max: 5})
	want(t, "one below 0", agg.Of(-1), api.Agg{Count: 1, Hi: -1, Lo: math.MaxUint64, Min: -1, Max: -1})
	want(t, "some", agg.Of(3, -1, 7), api.Agg{Count: 3, Lo: 9, Min: -1, Max: 7})
	want(t, "those that make 0", agg.Of(-4, 4), api.Agg{Count: 2, Min: -4, Max: 4})
	want(t, "the same twice", agg.Of(2, 2), api.Agg{Count: 2, Lo: 4, Min: 2, Max: 2})
	want(t, "the greatest", agg.Of(greatest), api.Agg{Count: 1, Lo: greatest, Min: greatest, Max: greatest})
	want(t, "the least", agg.Of(least), api.Agg{Count: 1, Hi: -1, Lo: 1 << 63, Min: least, Max: least})
	want(t, "one beyond the greatest", agg.Of(greatest, 1), api.Agg{Count: 2, Lo: 1 << 63, Min: 1, Max: greatest})
	want(t, "one beyond the least", agg.Of(least, -1), api.Agg{Count: 2, Hi: -1, Lo: greatest, Min: least, Max: -1})
	want(t, "into the next word", agg.Of(greatest, greatest, greatest), api.Agg{Count: 3, Hi: 1, Lo: 1<<63 - 3, Min: greatest, Max: greatest})
	want(t, "into the next word, below 0", agg.Of(least, least, least), api.Agg{Count: 3, Hi: -2, Lo: 1 << 63, Min: least, Max: least})
	want(t, "there and back", agg.Of(greatest, greatest, greatest, least, least, least), api.Agg{Count: 6, Hi: -1, Lo: math.MaxUint64 - 2, Min: least, Max: greatest})
	r := row(1)
	for range 2000 {
		v := r.values(12)
		want(t, "any", agg.Of(v...), plain(v))
	}
}

func TestP301Merge(t *testing.T) {
	x, y := agg.Of(3, -1), agg.Of(8)
	want(t, "none at all", agg.Merge(), api.Agg{})
	want(t, "a nil list", agg.Merge([]api.Agg(nil)...), api.Agg{})
	want(t, "none and none", agg.Merge(agg.Of(), agg.Of()), api.Agg{})
	want(t, "two", agg.Merge(x, y), agg.Of(3, -1, 8))
	want(t, "with none between", agg.Merge(agg.Of(), y, agg.Of(), x, agg.Of()), agg.Of(3, -1, 8))
	want(t, "many", agg.Merge(x, y, x, y, x), agg.Of(3, -1, 8, 3, -1, 8, 3, -1))
	for _, a := range rights() {
		want(t, "one alone", agg.Merge(a), a)
		want(t, "with none", agg.Merge(a, agg.Of()), a)
		want(t, "behind none", agg.Merge(agg.Of(), a), a)
	}
	want(t, "of no values", agg.Merge(api.Agg{Count: 1, Hi: 2, Lo: 9, Min: -3, Max: 4}, api.Agg{Count: 6, Hi: -5, Lo: 1, Min: -2, Max: 7}),
		api.Agg{Count: 7, Hi: -3, Lo: 10, Min: -3, Max: 7})
}

func TestP301MergeLeavesOutTheWrong(t *testing.T) {
	x, y := agg.Of(3, -1), agg.Of(8)
	want(t, "all are wrong", agg.Merge(wrongs()...), api.Agg{})
	for _, bad := range wrongs() {
		want(t, "a wrong one alone", agg.Merge(bad), api.Agg{})
		want(t, "first", agg.Merge(bad, x, y), agg.Of(3, -1, 8))
		want(t, "between", agg.Merge(x, bad, y), agg.Of(3, -1, 8))
		want(t, "last", agg.Merge(x, y, bad, bad), agg.Of(3, -1, 8))
	}
}

func TestP301MergeEnds(t *testing.T) {
	counts := []struct{ a, b, both int }{
		{full - 2, 1, full - 1}, {full - 1, 1, full}, {full, 1, full}, {1, full, full}, {full - 1, 2, full},
		{full / 2, full / 2, full}, {full / 2, full/2 + 1, full}, {full, full, full}, {1, 2, 3},
	}
	for _, c := range counts {
		want(t, strconv.Itoa(c.a)+" and "+strconv.Itoa(c.b), agg.Merge(api.Agg{Count: c.a}, api.Agg{Count: c.b}), api.Agg{Count: c.both})
	}
	top := api.Agg{Count: full}
	want(t, "many of 2^62", agg.Merge(top, top, top, top, top), top)
	// The sum goes on where the count does not.
	want(t, "values of more than are counted", agg.Merge(api.Agg{Count: full, Lo: 3, Min: 0, Max: 1}, agg.Of(5, -9)), api.Agg{Count: full, Hi: -1, Lo: math.MaxUint64, Min: -9, Max: 5})

	high := api.Agg{Count: 1, Hi: greatest, Lo: math.MaxUint64}
	low := api.Agg{Count: 1, Hi: least}
	want(t, "the greatest sum and 1", agg.Merge(high, agg.Of(1)), api.Agg{Count: 2, Hi: least, Max: 1})
	want(t, "the least sum and -1", agg.Merge(low, agg.Of(-1)), api.Agg{Count: 2, Hi: greatest, Lo: math.MaxUint64, Min: -1})
	want(t, "the greatest sum twice", agg.Merge(high, high), api.Agg{Count: 2, Hi: -1, Lo: math.MaxUint64 - 1})
	want(t, "the least sum twice", agg.Merge(low, low), api.Agg{Count: 2})
	want(t, "the carry of all words", agg.Merge(agg.Of(-1), agg.Of(1)), api.Agg{Count: 2, Min: -1, Max: 1})
}

func TestP301Add(t *testing.T) {
	x := agg.Of(3, -1)
	want(t, "a value", agg.Add(x, 8), agg.Of(3, -1, 8))
	want(t, "values", agg.Add(x, greatest, least, 7), agg.Of(3, -1, greatest, least, 7))
	want(t, "no values", agg.Add(x), x)
	want(t, "to none", agg.Add(agg.Of(), 8, 9), agg.Of(8, 9))
	want(t, "nothing to none", agg.Add(agg.Of()), api.Agg{})
	want(t, "to as many as are counted", agg.Add(api.Agg{Count: full}, 1), api.Agg{Count: full, Lo: 1, Max: 1})
	for _, bad := range wrongs() {
		want(t, "to a wrong one", agg.Add(bad, 8), agg.Of(8))
		want(t, "nothing to a wrong one", agg.Add(bad), api.Agg{})
	}
	for _, a := range rights() {
		want(t, "to a right one", agg.Add(a, 4, -6), agg.Merge(a, agg.Of(4, -6)))
	}
}

func TestP301HandedInStays(t *testing.T) {
	v := []int{3, -1, 7}
	agg.Of(v...)
	agg.Add(agg.Of(2), v...)
	want(t, "values", slices.Equal(v, []int{3, -1, 7}), true)
	l := append(rights(), wrongs()...)
	agg.Merge(l...)
	want(t, "aggregates", slices.Equal(l, append(rights(), wrongs()...)), true)
}

func TestP302SumAndMean(t *testing.T) {
	wantSum(t, "the example", agg.Of(greatest, 1), greatest, true, greatest)
	wantSum(t, "none", agg.Of(), 0, false, 0)
	wantSum(t, "0", agg.Of(0), 0, false, 0)
	wantSum(t, "the greatest", agg.Of(greatest), greatest, false, greatest)
	wantSum(t, "the least", agg.Of(least), least, false, least)
	wantSum(t, "beyond the least", agg.Of(least, -1), least, true, least)
	wantSum(t, "back again", agg.Of(greatest, 1, -1), greatest, false, greatest/3)
	wantSum(t, "back again, below 0", agg.Of(least, -1, 1), least, false, least/3)
	wantSum(t, "both ends", agg.Of(least, greatest), -1, false, 0)
	wantSum(t, "rounded down", agg.Of(7, 8), 15, false, 7)
	wantSum(t, "rounded up", agg.Of(-7, -8), -15, false, -7)
	wantSum(t, "near 0", agg.Of(0, 0, 2), 2, false, 0)
	wantSum(t, "near 0, below", agg.Of(0, 0, -2), -2, false, 0)
	wantSum(t, "even", agg.Of(-4, -6, -8), -18, false, -6)
}

func TestP302SumsOfTwoWords(t *testing.T) {
	one := func(hi int, lo uint64) api.Agg { return api.Agg{Count: 1, Hi: hi, Lo: lo} }
	wantSum(t, "the last that goes", one(0, greatest), greatest, false, greatest)
	wantSum(t, "the first that does not", one(0, 1<<63), greatest, true, greatest)
	wantSum(t, "a full word", one(0, math.MaxUint64), greatest, true, greatest)
	wantSum(t, "two words", one(1, 0), greatest, true, greatest)
	wantSum(t, "two words, as if below 0", one(5, math.MaxUint64), greatest, true, greatest)
	wantSum(t, "the greatest sum", one(greatest, math.MaxUint64), greatest, true, greatest)
	wantSum(t, "-1", one(-1, math.MaxUint64), -1, false, -1)
	wantSum(t, "the last below 0 that goes", one(-1, 1<<63), least, false, least)
	wantSum(t, "the first below 0 that does not", one(-1, greatest), least, true, least)
	wantSum(t, "-2^64", one(-1, 0), least, true, least)
	wantSum(t, "two words below 0", one(-5, math.MaxUint64), least, true, least)
	wantSum(t, "the least sum", one(least, 0), least, true, least)
	wantSum(t, "of 2^62", api.Agg{Count: full, Lo: greatest}, greatest, false, 1)
	wantSum(t, "of 2^62, below 0", api.Agg{Count: full, Hi: -1, Lo: 1 << 63}, least, false, -2)
	wantSum(t, "of 2^62, not below -2^62", api.Agg{Count: full, Hi: -1, Lo: math.MaxUint64 - 1}, -2, false, 0)
}

func TestP302OfTheWrong(t *testing.T) {
	for _, bad := range wrongs() {
		want(t, "the mean of a wrong one", agg.Mean(bad), 0)
	}
	// A sum is told of these too: no word of the document leaves them out.
	wantSum(t, "a sum that goes", api.Agg{Count: -2, Lo: 9, Min: 1, Max: 4}, 9, false, 0)
	wantSum(t, "a sum that does not go", api.Agg{Count: 1, Hi: 1, Min: 2, Max: 1}, greatest, true, 0)
	wantSum(t, "a sum of no values", api.Agg{Hi: -9}, least, true, 0)
}

func TestP302IsThatOfTheValues(t *testing.T) {
	r := row(2)
	for range 2000 {
		v := r.values(6)
		sum := new(big.Int)
		for _, x := range v {
			sum.Add(sum, big.NewInt(int64(x)))
		}
		s, over := agg.Sum(agg.Of(v...))
		want(t, "does it not go", over, !sum.IsInt64())
		mean := 0
		switch {
		case sum.IsInt64():
			want(t, "the sum", s, int(sum.Int64()))
			if len(v) > 0 {
				mean = int(new(big.Int).Quo(sum, big.NewInt(int64(len(v)))).Int64())
			}
		case sum.Sign() < 0:
			mean = least
			want(t, "a sum below all", s, least)
		default:
			mean = greatest
			want(t, "a sum above all", s, greatest)
		}
		want(t, "the mean", agg.Mean(agg.Of(v...)), mean)
	}
}

// bytesOf lays an aggregate as the document has it, be it right or wrong.
func bytesOf(a api.Agg) string {
	var b []byte
	for _, x := range []uint64{uint64(a.Count), uint64(a.Hi), a.Lo, uint64(a.Min), uint64(a.Max)} {
		b = binary.LittleEndian.AppendUint64(b, x)
	}
	return string(b)
}

func TestP303Put(t *testing.T) {
	zeros, ones := strings.Repeat("\x00", 7), strings.Repeat("\xff", 8)
	wantPut(t, "two values", agg.Of(3, -1), "\x02"+zeros+"\x00"+zeros+"\x02"+zeros+ones+"\x03"+zeros, api.OK)
	for _, a := range rights() {
		wantPut(t, "a right one", a, bytesOf(a), api.OK)
	}
	for _, a := range wrongs() {
		wantPut(t, "a wrong one", a, "", api.ErrArg)
	}
}

func TestP303Get(t *testing.T) {
	for _, a := range rights() {
		wantGet(t, "a right one", bytesOf(a), a, api.OK)
	}
	for _, a := range wrongs() {
		wantGet(t, "a wrong one", bytesOf(a), api.Agg{}, api.ErrForm)
	}
	wantGet(t, "other bytes", strings.Repeat("\xff", 40), api.Agg{}, api.ErrForm)
}

func TestP303GetOfOtherLengths(t *testing.T) {
	right, wrong := bytesOf(agg.Of(3, -1)), bytesOf(api.Agg{})
	for n := range 40 {
		wantGet(t, strconv.Itoa(n)+" bytes", right[:n], api.Agg{}, api.ErrShort)
		wantGet(t, strconv.Itoa(n)+" bytes of a wrong one", wrong[:n], api.Agg{}, api.ErrShort)
	}
	wantGet(t, "a byte more", right+"\x00", api.Agg{}, api.ErrShort)
	wantGet(t, "a byte more of a wrong one", wrong+"\x00", api.Agg{}, api.ErrShort)
	wantGet(t, "two of them", right+right, api.Agg{}, api.ErrShort)
}

func TestP303GetOfPut(t *testing.T) {
	r := row(3)
	for range 500 {
		a := agg.Of(append(r.values(9), r.value())...)
		b, e := agg.Put(a)
		want(t, "the error", e, api.OK)
		wantGet(t, "what was put", b, a, api.OK)
	}
}

func TestP304MergeInAnyOrder(t *testing.T) {
	r := row(4)
	all := append(rights(), agg.Of(), agg.Of(r.values(5)...), agg.Of(r.values(5)...))
	for _, a := range all {
		for _, b := range all {
			want(t, "commutative", agg.Merge(a, b), agg.Merge(b, a))
			for _, c := range all {
				want(t, "associative", agg.Merge(agg.Merge(a, b), c), agg.Merge(a, agg.Merge(b, c)))
				want(t, "at once", agg.Merge(a, b, c), agg.Merge(agg.Merge(a, b), c))
			}
			if t.Failed() {
				t.FailNow() // one difference says enough: there would be thousands
			}
		}
	}
}

func TestP304OfIsMergeOfEach(t *testing.T) {
	r := row(5)
	for range 500 {
		v := r.values(12)
		var each []api.Agg
		for _, x := range v {
			each = append(each, agg.Of(x))
		}
		want(t, "of each", agg.Merge(each...), agg.Of(v...))
		cut := r.next() % (len(v) + 1)
		want(t, "of two parts", agg.Merge(agg.Of(v[cut:]...), agg.Of(v[:cut]...)), agg.Of(v...))
		want(t, "one part added", agg.Add(agg.Of(v[:cut]...), v[cut:]...), agg.Of(v...))
	}
}
