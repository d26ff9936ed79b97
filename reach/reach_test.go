package reach_test

import (
	"fmt"
	"math"
	"slices"
	"strings"
	"testing"
	"unsafe"

	"sediment/api"
	"sediment/reach"
)

const (
	least    = math.MinInt
	greatest = math.MaxInt
)

// want holds an answer against what is wanted.
func want[T comparable](t *testing.T, what string, got, wanted T) {
	t.Helper()
	if got != wanted {
		t.Errorf("%s: %v, not %v", what, got, wanted)
	}
}

// wantList holds a list against what is wanted; nil and empty ones are one.
func wantList(t *testing.T, what string, got []int, wanted ...int) {
	t.Helper()
	if !slices.Equal(got, wanted) {
		t.Errorf("%s: %v, not %v", what, got, wanted)
	}
}

// tier is a tier, named by its ticks.
func tier(every, keep int) api.Tier {
	return api.Tier{Name: fmt.Sprint("t", every), Every: every, Keep: keep, Shards: 1}
}

// tiers is a policy of these tiers.
func tiers(l ...api.Tier) api.Policy { return api.Policy{Name: "p", Tiers: l} }

// web is the policy of chapter 8.
func web() api.Policy {
	return api.Policy{Name: "web", Tiers: []api.Tier{{Name: "raw", Every: 1, Keep: 100, Shards: 2}, {Name: "tens", Every: 10, Keep: 1000, Shards: 1}}}
}

// sample is a sample of no particular value.
func sample(s string, at int) api.Sample { return api.Sample{Name: s, Time: at, Value: 7} }

// places are numbers of tiers, and of none.
func places(p api.Policy) []int {
	l := []int{least, -2, -1}
	for i := range len(p.Tiers) + 3 {
		l = append(l, i)
	}
	return append(l, greatest)
}

// back is what grid.Back is to tell of small numbers, found one by one.
func back(now, keep, every int) int {
	if now < 0 || keep < 0 || every < 1 {
		return 0
	}
	at := now - keep
	for at > 0 && at%every != 0 {
		at--
	}
	return max(at, 0)
}

// from is what From is to tell of small numbers.
func from(r reach.Reach, tier int) int {
	l := r.Policy.Tiers
	if tier < 0 || tier >= len(l) {
		return 0
	}
	step := l[len(l)-1].Every
	if tier+1 < len(l) {
		step = l[tier+1].Every
	}
	at := back(r.Now, l[tier].Keep, step)
	if tier < len(r.Floors) && r.Floors[tier] > at {
		at = r.Floors[tier]
	}
	return at
}

// start is what Start is to tell of small numbers: the bucket that is found by going through all from 0 on.
func start(r reach.Reach, tier, at int) (int, bool) {
	if tier < 0 || tier >= len(r.Policy.Tiers) || at < 0 {
		return 0, false
	}
	every := r.Policy.Tiers[tier].Every
	bucket := at
	if every >= 1 {
		for bucket = 0; bucket+every <= at; bucket += every {
		}
	}
	return bucket, bucket >= from(r, tier)
}

// cover is what Cover is to tell of small numbers.
func cover(r reach.Reach, at int) int {
	last := -1
	for i := range r.Policy.Tiers {
		last = i
		if from(r, i) <= at {
			break
		}
	}
	return last
}

// takes is what Takes is to tell of a sample with a valid name.
func takes(r reach.Reach, at int) api.Errno {
	if at < 0 {
		return api.ErrArg
	}
	if at > r.Now {
		return api.ErrFuture
	}
	if len(r.Policy.Tiers) == 0 || at < from(r, 0) {
		return api.ErrOld
	}
	return api.OK
}

// policies are small policies: those that may be, and others.
func policies() []api.Policy {
	return []api.Policy{
		tiers(), tiers(tier(1, 1)), tiers(tier(1, 9)), tiers(tier(3, 5)),
		tiers(tier(1, 4), tier(3, 9)), tiers(tier(1, 4), tier(2, 4), tier(10, 12)), tiers(tier(1, 1), tier(2, 3), tier(4, 3), tier(12, 9), tier(24, 30)),
		tiers(tier(0, 5)), tiers(tier(-3, 5)), tiers(tier(1, -1)), tiers(tier(1, 0)),
		tiers(tier(1, 5), tier(0, 7)), tiers(tier(1, 5), tier(-4, 7)), tiers(tier(0, 5), tier(4, 7)), tiers(tier(4, 20), tier(3, 2)), tiers(tier(7, -2), tier(5, 8)),
		tiers(tier(1, 2), tier(1, 2), tier(2, 4), tier(2, 4), tier(4, 8), tier(4, 8), tier(8, 16)),
	}
}

// floors are lists of floors: fewer than tiers, as many, and more.
func floors() [][]int {
	return [][]int{nil, {}, {0}, {6}, {7, 12}, {0, 12}, {30, 2, 20}, {-1, -5}, {-4, 3, 10, 12, 24}, {1, 2, 3, 4, 5, 6, 7, 8, 9}, {greatest, least}, {least, greatest}}
}

// each calls f with many small reaches.
func each(f func(r reach.Reach)) {
	for _, p := range policies() {
		for _, l := range floors() {
			for _, now := range []int{-5, -1, 0, 1, 4, 5, 6, 9, 10, 11, 12, 13, 17, 24, 25, 36, 47, 48, 49} {
				f(reach.Of(p, now, l...))
			}
		}
	}
}

func TestP901Of(t *testing.T) {
	for _, p := range policies() {
		for _, l := range floors() {
			for _, now := range []int{least, -1, 0, 9, greatest} {
				r := reach.Of(p, now, l...)
				what := fmt.Sprint("Of ", p, now, l)
				want(t, what+": Now", r.Now, now)
				want(t, what+": the policy's name", r.Policy.Name, p.Name)
				want(t, what+": the policy's tiers", slices.Equal(r.Policy.Tiers, p.Tiers), true)
				wantList(t, what+": Floors", r.Floors, l...)
			}
		}
	}
	wantList(t, "Floors of none", reach.Of(web(), 5).Floors)
}

func TestP901Example(t *testing.T) {
	r := reach.Of(web(), 257)
	want(t, "From(0)", r.From(0), 150)
	want(t, "From(1)", r.From(1), 0)
	wantList(t, "All", r.All(), 150, 0)
}

func TestP901FromByTheTierBehind(t *testing.T) {
	p := tiers(tier(1, 10), tier(6, 20), tier(30, 50))
	cases := []struct {
		now int
		all []int
	}{
		{0, []int{0, 0, 0}}, {15, []int{0, 0, 0}}, {16, []int{6, 0, 0}}, {21, []int{6, 0, 0}}, {22, []int{12, 0, 0}},
		{49, []int{36, 0, 0}}, {50, []int{36, 30, 0}}, {51, []int{36, 30, 0}}, {52, []int{42, 30, 0}},
		{79, []int{66, 30, 0}}, {80, []int{66, 60, 30}}, {109, []int{96, 60, 30}}, {110, []int{96, 90, 60}},
	}
	for _, c := range cases {
		wantList(t, fmt.Sprint("All at ", c.now), reach.Of(p, c.now).All(), c.all...)
	}
	// The last one goes by its own ticks, whatever those ahead of it have.
	wantList(t, "All of one tier", reach.Of(tiers(tier(7, 10)), 30).All(), 14)
	wantList(t, "All of a finer tier behind", reach.Of(tiers(tier(7, 10), tier(2, 10)), 31).All(), 20, 20)
}

func TestP901FromByFloors(t *testing.T) {
	p := tiers(tier(1, 10), tier(5, 20))
	at := func(floors ...int) []int { return reach.Of(p, 40, floors...).All() }
	wantList(t, "no floors", at(), 30, 20)
	wantList(t, "floors below", at(29, 19), 30, 20)
	wantList(t, "floors as the policy says", at(30, 20), 30, 20)
	wantList(t, "floors above", at(31, 21), 31, 21)
	wantList(t, "a floor of the first tier", at(33), 33, 20)
	wantList(t, "a floor of the second tier", at(0, 33), 30, 33)
	wantList(t, "floors above Now", at(41, greatest), 41, greatest)
	wantList(t, "floors below 0", at(-1, least), 30, 20)
	wantList(t, "more floors than tiers", at(0, 0, 99), 30, 20)
	want(t, "a floor without a tier", reach.Of(p, 40, 0, 0, 99).From(2), 0)
	want(t, "a floor without any tier", reach.Of(tiers(), 40, 99).From(0), 0)
	wantList(t, "a floor below 0 of what reaches back to 0", reach.Of(p, 4, -1, -9).All(), 0, 0)
}

func TestP901FromOfNoTier(t *testing.T) {
	r := reach.Of(web(), 5000, 700, 800, 900)
	for _, i := range []int{least, -2, -1, 2, 3, 1 << 40, greatest} {
		want(t, fmt.Sprint("From ", i), r.From(i), 0)
	}
}

func TestP901FromAtTheEnds(t *testing.T) {
	cases := []struct{ now, keep, every, from int }{
		{greatest, 0, 1, greatest}, {greatest, 1, 1, greatest - 1}, {greatest, 0, 10, greatest - 7}, {greatest, greatest, 1, 0}, {greatest, 0, greatest, greatest},
		{greatest, least, 1, 0}, {greatest, 5, least, 0}, {least, 5, 1, 0}, {least, greatest, 1, 0}, {least, least, least, 0}, {-1, 0, 1, 0},
		{api.MaxTime, api.MaxKeep, 60, (1<<40 - 1000000) / 60 * 60},
	}
	for _, c := range cases {
		want(t, fmt.Sprint("From ", c), reach.Of(tiers(tier(c.every, c.keep)), c.now).From(0), c.from)
		want(t, fmt.Sprint("From of the one ahead ", c), reach.Of(tiers(tier(3, c.keep), tier(c.every, 0)), c.now).From(0), c.from)
	}
}

func TestP901FromIsThatOfTheModel(t *testing.T) {
	each(func(r reach.Reach) {
		var all []int
		for _, i := range places(r.Policy) {
			want(t, fmt.Sprint(r, ": From ", i), r.From(i), from(r, i))
		}
		for i := range r.Policy.Tiers {
			all = append(all, from(r, i))
		}
		wantList(t, fmt.Sprint(r, ": All"), r.All(), all...)
	})
}

func TestP901Takes(t *testing.T) {
	r := reach.Of(web(), 257)
	cases := []struct {
		s  api.Sample
		is api.Errno
	}{
		{sample("a", 150), api.OK}, {sample("a", 151), api.OK}, {sample("a", 257), api.OK}, {sample("fifteen.bytes-_", 200), api.OK},
		{sample("a", 149), api.ErrOld}, {sample("a", 0), api.ErrOld},
		{sample("a", 258), api.ErrFuture}, {sample("a", greatest), api.ErrFuture},
		{sample("a", -1), api.ErrArg}, {sample("a", least), api.ErrArg},
		{sample("", 200), api.ErrArg}, {sample("A", 200), api.ErrArg}, {sample("sixteen.bytes-_9", 200), api.ErrArg}, {sample("a b", 200), api.ErrArg}, {sample("é", 200), api.ErrArg},
		// What can't be at all is told ahead of its time.
		{sample("A", 258), api.ErrArg}, {sample("A", 149), api.ErrArg}, {sample("", -1), api.ErrArg},
	}
	for _, c := range cases {
		want(t, fmt.Sprint("Takes ", c.s), r.Takes(c.s), c.is)
	}
	for _, v := range []int{least, -1, 0, greatest} {
		want(t, "Takes any value", r.Takes(api.Sample{Name: "a", Time: 200, Value: v}), api.OK)
	}
}

func TestP901TakesOfEachByte(t *testing.T) {
	r := reach.Of(web(), 9)
	for c := range 256 {
		is := api.ErrArg
		if strings.Contains("abcdefghijklmnopqrstuvwxyz0123456789._-", string([]byte{byte(c)})) {
			is = api.OK
		}
		want(t, fmt.Sprint("Takes of the byte ", c), r.Takes(sample("a"+string([]byte{byte(c)})+"z", 5)), is)
	}
}

func TestP901TakesByTheFirstTier(t *testing.T) {
	// The one behind reaches further back, and has a floor below that of the first one: neither counts.
	r := reach.Of(web(), 257, 200, 10)
	want(t, "at the floor", r.Takes(sample("a", 200)), api.OK)
	want(t, "below the floor", r.Takes(sample("a", 199)), api.ErrOld)
	r = reach.Of(web(), 257, 0, 240)
	want(t, "below the floor of the one behind", r.Takes(sample("a", 150)), api.OK)
	// Where the floor is above Now nothing may come.
	r = reach.Of(web(), 257, 300)
	want(t, "at Now", r.Takes(sample("a", 257)), api.ErrOld)
	want(t, "behind Now", r.Takes(sample("a", 258)), api.ErrFuture)
	want(t, "at the floor behind Now", r.Takes(sample("a", 300)), api.ErrFuture)
}

func TestP901TakesOfNoTier(t *testing.T) {
	for _, l := range floors() {
		r := reach.Of(tiers(), 9, l...)
		want(t, "at 0", r.Takes(sample("a", 0)), api.ErrOld)
		want(t, "at Now", r.Takes(sample("a", 9)), api.ErrOld)
		want(t, "behind Now", r.Takes(sample("a", 10)), api.ErrFuture)
		want(t, "below 0", r.Takes(sample("a", -1)), api.ErrArg)
		want(t, "no name", r.Takes(sample("", 9)), api.ErrArg)
	}
}

func TestP901TakesIsThatOfTheModel(t *testing.T) {
	each(func(r reach.Reach) {
		for at := -2; at <= 51; at++ {
			want(t, fmt.Sprint(r, ": Takes at ", at), r.Takes(sample("a", at)), takes(r, at))
			want(t, fmt.Sprint(r, ": Takes of no name at ", at), r.Takes(sample("a*", at)), api.ErrArg)
		}
	})
}

// wantStart holds what Start tells against what is wanted.
func wantStart(t *testing.T, r reach.Reach, tier, at, wanted int, has bool) {
	t.Helper()
	got, is := r.Start(tier, at)
	if got != wanted || is != has {
		t.Errorf("%v: Start(%d, %d): %d, %v, not %d, %v", r, tier, at, got, is, wanted, has)
	}
}

func TestP901Start(t *testing.T) {
	r := reach.Of(web(), 257, 154, 160)
	wantStart(t, r, 0, 154, 154, true)
	wantStart(t, r, 0, 155, 155, true)
	wantStart(t, r, 0, 153, 153, false)
	wantStart(t, r, 0, 0, 0, false)
	wantStart(t, r, 1, 160, 160, true)
	wantStart(t, r, 1, 169, 160, true)
	wantStart(t, r, 1, 170, 170, true)
	wantStart(t, r, 1, 159, 150, false)
	wantStart(t, r, 1, 9, 0, false)
	// Times behind Now have buckets too.
	wantStart(t, r, 0, 300, 300, true)
	wantStart(t, r, 1, 309, 300, true)
	wantStart(t, r, 1, greatest, greatest-7, true)
}

func TestP901StartOfAPart(t *testing.T) {
	// A bucket of which the tier reaches back to but a part is none that it has.
	r := reach.Of(web(), 257, 0, 161)
	wantStart(t, r, 1, 160, 160, false)
	wantStart(t, r, 1, 161, 160, false)
	wantStart(t, r, 1, 169, 160, false)
	wantStart(t, r, 1, 170, 170, true)
}

func TestP901StartOfNone(t *testing.T) {
	r := reach.Of(web(), 5)
	for _, i := range []int{least, -1, 2, 3, greatest} {
		wantStart(t, r, i, 5, 0, false)
		wantStart(t, r, i, -5, 0, false)
	}
	for _, at := range []int{-1, -10, -11, least} {
		wantStart(t, r, 0, at, 0, false)
		wantStart(t, r, 1, at, 0, false)
	}
	wantStart(t, r, 0, 0, 0, true)
	wantStart(t, r, 1, 0, 0, true)
	wantStart(t, reach.Of(tiers(), 5), 0, 5, 0, false)
	// Not even where a floor is below 0.
	wantStart(t, reach.Of(web(), 5, -100, -100), 1, -20, 0, false)
}

func TestP901StartIsThatOfTheModel(t *testing.T) {
	each(func(r reach.Reach) {
		for _, i := range places(r.Policy) {
			for at := -3; at <= 51; at++ {
				s, is := start(r, i, at)
				wantStart(t, r, i, at, s, is)
			}
		}
	})
}

func TestP902CoverExample(t *testing.T) {
	r := reach.Of(web(), 257)
	want(t, "Cover(150)", r.Cover(150), 0)
	want(t, "Cover(140)", r.Cover(140), 1)
}

func TestP902Cover(t *testing.T) {
	p := tiers(tier(1, 10), tier(5, 20), tier(10, 60))
	r := reach.Of(p, 100) // 90, 80, 40
	cases := []struct{ from, tier int }{
		{greatest, 0}, {101, 0}, {100, 0}, {91, 0}, {90, 0}, {89, 1}, {80, 1}, {79, 2}, {40, 2}, {39, 2}, {0, 2}, {-1, 2}, {least, 2},
	}
	for _, c := range cases {
		want(t, fmt.Sprint("Cover ", c.from), r.Cover(c.from), c.tier)
	}
	// The first one counts, not the one that reaches back the least or the furthest.
	r = reach.Of(p, 100, 95, 98, 50)
	want(t, "Cover of the first one's floor", r.Cover(95), 0)
	want(t, "Cover below the first one's floor", r.Cover(94), 2)
	want(t, "Cover below all floors", r.Cover(49), 2)
	r = reach.Of(p, 100, 95, 60, 70)
	want(t, "Cover of the one between", r.Cover(80), 1)
	want(t, "Cover below the one between", r.Cover(65), 2)
	want(t, "Cover of a floor below 0", reach.Of(p, 5, -9, -9, -9).Cover(-1), 2)
}

func TestP902CoverOfNoTier(t *testing.T) {
	for _, at := range []int{least, -1, 0, 5, greatest} {
		want(t, "Cover of a policy without tiers", reach.Of(tiers(), 5, 3).Cover(at), -1)
		want(t, "Cover of one tier", reach.Of(tiers(tier(1, 2)), 5).Cover(at), 0)
	}
}

func TestP902CoverIsThatOfTheModel(t *testing.T) {
	each(func(r reach.Reach) {
		for at := -2; at <= 51; at++ {
			want(t, fmt.Sprint(r, ": Cover ", at), r.Cover(at), cover(r, at))
		}
		want(t, fmt.Sprint(r, ": Cover of the least"), r.Cover(least), cover(r, least))
		want(t, fmt.Sprint(r, ": Cover of the greatest"), r.Cover(greatest), cover(r, greatest))
	})
}

// alike tells whether two reaches are the same in all.
func alike(a, b reach.Reach) bool {
	return a.Now == b.Now && a.Policy.Name == b.Policy.Name && slices.Equal(a.Policy.Tiers, b.Policy.Tiers) && slices.Equal(a.Floors, b.Floors)
}

func TestP902Later(t *testing.T) {
	r := reach.Of(web(), 257, 154, 160)
	wantList(t, "at 300", r.Later(300).All(), 200, 160)
	wantList(t, "at 2000", r.Later(2000).All(), 1900, 1000)
	for _, c := range []struct{ now, is int }{{258, 258}, {257, 257}, {256, 257}, {0, 257}, {-1, 257}, {least, 257}, {1 << 40, 1 << 40}, {greatest, greatest}} {
		want(t, fmt.Sprint("Later ", c.now), alike(r.Later(c.now), reach.Of(web(), c.is, 154, 160)), true)
	}
	want(t, "from below 0 on", reach.Of(web(), -9).Later(-5).Now, -5)
	want(t, "the one that it was asked of", alike(r, reach.Of(web(), 257, 154, 160)), true)
}

func TestP902LaterIsThatOfOf(t *testing.T) {
	each(func(r reach.Reach) {
		for _, now := range []int{least, -7, -1, 0, 1, 9, 10, 11, 30, 60, greatest} {
			want(t, fmt.Sprint(r, ": Later ", now), alike(r.Later(now), reach.Of(r.Policy, max(now, r.Now), r.Floors...)), true)
		}
	})
}

// maybe are policies that may be.
func maybe() []api.Policy {
	return []api.Policy{web(), tiers(tier(1, 1)), tiers(tier(1, 7), tier(2, 7)), tiers(tier(1, 4), tier(3, 9), tier(12, 20)), tiers(tier(1, 1), tier(2, 3), tier(4, 3), tier(12, 9), tier(24, 30))}
}

func TestP903FromDoesNotFall(t *testing.T) {
	for _, p := range maybe() {
		for _, l := range floors() {
			last := reach.Of(p, 0, l...)
			for now := 1; now <= 300; now++ {
				next := last.Later(now)
				for i := range p.Tiers {
					want(t, fmt.Sprint(next, ": not below the one ahead of it"), next.From(i) >= last.From(i), true)
				}
				last = next
			}
		}
	}
}

func TestP903FromIsOnTheGrid(t *testing.T) {
	for _, p := range maybe() {
		for now := range 300 {
			free, held := reach.Of(p, now), reach.Of(p, now)
			for i, x := range p.Tiers {
				held.Floors = append(held.Floors, (i+2)*x.Every)
			}
			for i, x := range p.Tiers {
				want(t, fmt.Sprint(held, ": on the grid of ", i), held.From(i)%x.Every, 0)
				want(t, fmt.Sprint(held, ": no less than without floors"), held.From(i), max(free.From(i), (i+2)*x.Every))
				behind := p.Tiers[min(i+1, len(p.Tiers)-1)].Every
				want(t, fmt.Sprint(free, ": on the grid behind ", i), free.From(i)%behind, 0)
			}
		}
	}
}

// wantZero wants of a reach what one of nothing at all tells.
func wantZero(t *testing.T, what string, r reach.Reach) {
	t.Helper()
	want(t, what+": From", r.From(0), 0)
	wantList(t, what+": All", r.All())
	want(t, what+": Cover", r.Cover(0), -1)
	wantStart(t, r, 0, 0, 0, false)
	want(t, what+": Takes at 0", r.Takes(sample("a", 0)), api.ErrOld)
	want(t, what+": Takes at 1", r.Takes(sample("a", 1)), api.ErrFuture)
	want(t, what+": Takes of no sample", r.Takes(api.Sample{}), api.ErrArg)
	want(t, what+": Later", alike(r.Later(5), reach.Reach{Now: 5}), true)
}

func TestZeroReach(t *testing.T) {
	wantZero(t, "a zero one", reach.Reach{})
	wantZero(t, "one of nothing", reach.Of(api.Policy{}, 0))
	wantZero(t, "one of empty lists", reach.Of(api.Policy{Tiers: []api.Tier{}}, 0, []int{}...))
}

func TestReachIsAValue(t *testing.T) {
	// One that is written out, or changed by hand, answers by what it has then.
	r := reach.Reach{Now: 257, Policy: web()}
	wantList(t, "written out", r.All(), 150, 0)
	r.Now = 300
	wantList(t, "at another time", r.All(), 200, 0)
	r.Floors = []int{210, 20}
	wantList(t, "with floors", r.All(), 210, 20)
	r.Policy.Tiers = r.Policy.Tiers[:1]
	wantList(t, "with a tier less", r.All(), 210)
	r.Policy.Tiers[0].Keep = 50
	wantList(t, "kept for less long", r.All(), 250)
	twin := r
	twin.Now = 400
	want(t, "its twin's time", r.Now, 300)
}

// apart wants two reaches that are alike to share no memory.
func apart(t *testing.T, what string, a, b reach.Reach) {
	t.Helper()
	want(t, what+": alike", alike(a, b), true)
	want(t, what+": the policy's name apart", unsafe.StringData(a.Policy.Name) != unsafe.StringData(b.Policy.Name), true)
	for i := range a.Policy.Tiers {
		want(t, what+": a tier apart", &a.Policy.Tiers[i] != &b.Policy.Tiers[i], true)
		want(t, what+": a tier's name apart", unsafe.StringData(a.Policy.Tiers[i].Name) != unsafe.StringData(b.Policy.Tiers[i].Name), true)
	}
	for i := range a.Floors {
		want(t, what+": a floor apart", &a.Floors[i] != &b.Floors[i], true)
	}
}

func TestAnswersOwnTheirMemory(t *testing.T) {
	given := reach.Reach{Now: 257, Policy: web(), Floors: []int{154, 160}}
	r := reach.Of(given.Policy, given.Now, given.Floors...)
	apart(t, "Of and what was handed in", r, given)
	apart(t, "Of, once more", r, reach.Of(given.Policy, given.Now, given.Floors...))
	apart(t, "Later and what it is of", r.Later(257), r)
	apart(t, "Later, once more", r.Later(300), r.Later(300))

	given.Policy.Tiers[0].Keep, given.Floors[1] = 1, 999
	wantList(t, "what was handed in changes", r.All(), 154, 160)
	next := r.Later(300)
	r.Policy.Tiers[0].Keep, r.Floors[1] = 1, 999
	wantList(t, "what it is of changes", next.All(), 200, 160)

	l := next.All()
	l[0], l[1] = 7, 7
	wantList(t, "an answer changes", next.All(), 200, 160)
}

func TestNothingHandedInChanges(t *testing.T) {
	p, l := web(), []int{154, 160, 3}
	r := reach.Of(p, 257, l...)
	r.From(0)
	r.All()
	r.Takes(sample("a", 5))
	r.Start(1, 99)
	r.Cover(5)
	r.Later(9)
	r.Later(900)
	want(t, "the policy, the floors and the reach", alike(r, reach.Reach{Now: 257, Policy: web(), Floors: []int{154, 160, 3}}), true)
	want(t, "what was handed in", alike(r, reach.Reach{Now: 257, Policy: p, Floors: l}), true)
}

func TestReadme(t *testing.T) {
	p := web()
	r := reach.Of(p, 257, 0, 60)
	wantList(t, "All", r.All(), 150, 60)
	want(t, "Takes", r.Takes(api.Sample{Name: "cpu", Time: 149, Value: 7}), api.ErrOld)
	wantStart(t, r, 1, 67, 60, true)
	wantStart(t, r, 1, 59, 50, false)
	want(t, "Cover", r.Cover(140), 1)
	want(t, "Later", r.Later(300).From(0), 200)
}
