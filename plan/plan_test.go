package plan_test

import (
	"fmt"
	"math"
	"slices"
	"strings"
	"testing"
	"unsafe"

	"sediment/agg"
	"sediment/api"
	"sediment/name"
	"sediment/plan"
	"sediment/reach"
	"sediment/tiers"
	"sediment/view"
)

const (
	least    = math.MinInt
	greatest = math.MaxInt
	longest  = "fifteen.bytes-_" // a name of as many bytes as it may have
)

// want holds an answer against what is wanted.
func want[T comparable](t *testing.T, what string, got, wanted T) {
	t.Helper()
	if got != wanted {
		t.Errorf("%s: %v, not %v", what, got, wanted)
	}
}

// wantList holds a list against what is wanted; nil and empty ones are one.
func wantList[T comparable](t *testing.T, what string, got []T, wanted ...T) {
	t.Helper()
	if !slices.Equal(got, wanted) {
		t.Errorf("%s: %v, not %v", what, got, wanted)
	}
}

// wantPolicy holds a policy against what is wanted.
func wantPolicy(t *testing.T, what string, got, wanted api.Policy) {
	t.Helper()
	want(t, what+": the name", got.Name, wanted.Name)
	wantList(t, what+": the tiers", got.Tiers, wanted.Tiers...)
}

// named is a policy of that name and those tiers.
func named(s string, l ...api.Tier) api.Policy { return api.Policy{Name: s, Tiers: l} }

// tier is a tier.
func tier(s string, every, keep, shards int) api.Tier {
	return api.Tier{Name: s, Every: every, Keep: keep, Shards: shards}
}

// web is the policy of chapter 8.
func web() api.Policy { return named("web", tier("raw", 1, 100, 2), tier("tens", 10, 1000, 1)) }

// fifties is the policy that web becomes in chapter 13.
func fifties() api.Policy {
	return named("fifties", tier("raw", 1, 50, 1), tier("fifties", 50, 5000, 3))
}

// small is a policy whose tiers soon give up what they have.
func small() api.Policy {
	return named("small", tier("a", 1, 3, 1), tier("b", 2, 5, 3), tier("c", 6, 12, 2))
}

// policies are policies of one to five tiers.
func policies() []api.Policy {
	return []api.Policy{
		web(), fifties(), small(), named("one", tier("a", 1, 1, 1)), named("p", tier("a", 1, 7, 8)), named("q", tier("a", 1, 4, 2), tier("b", 3, 4, 1)),
		named("r", tier("a", 1, 2, 1), tier("b", 2, 2, 1), tier("c", 4, 9, 2), tier("d", 8, 16, 3), tier("e", 24, 40, 4)),
		named("s", tier("a", 1, 30, 1), tier("b", 5, 45, 2), tier("c", 15, 90, 1)),
		named("u", tier("a", 1, 9, 3), tier("b", 7, 20, 1), tier("c", 14, 60, 8)),
	}
}

// wrong are policies that may not be.
func wrong() []api.Policy {
	five := make([]api.Tier, 0, 6)
	for i := range 6 {
		five = append(five, tier(string([]byte{byte('a' + i)}), 1<<i, 100, 1))
	}
	return []api.Policy{
		{}, named("p"), named("", web().Tiers...), named("W", web().Tiers...), named("p", five...),
		named("p", tier("a", 2, 100, 1)), named("p", tier("a", 0, 100, 1)), named("p", tier("", 1, 100, 1)),
		named("p", tier("a", 1, 0, 1)), named("p", tier("a", 1, 1000001, 1)), named("p", tier("a", 1, 5, 0)), named("p", tier("a", 1, 5, 9)),
		named("p", tier("a", 1, 10, 1), tier("a", 2, 20, 1)), named("p", tier("a", 1, 10, 1), tier("b", 1, 20, 1)),
		named("p", tier("a", 1, 10, 1), tier("b", 2, 20, 1), tier("c", 3, 30, 1)), named("p", tier("a", 1, 10, 1), tier("b", 2, 9, 1)),
	}
}

// at is a sample.
func at(s string, time, v int) api.Sample { return api.Sample{Name: s, Time: time, Value: v} }

// rec is the record of these values.
func rec(s string, start int, v ...int) api.Record {
	return api.Record{Name: s, Start: start, Agg: agg.Of(v...)}
}

// made is a plan that must be there.
func made(from api.Policy, r reach.Reach, to api.Policy) plan.Plan {
	p, e := plan.Make(from, r, to)
	if e != api.OK {
		panic(fmt.Sprint("Make from ", from, " to ", to, ": ", e))
	}
	return p
}

// opened are empty tiers that must be there.
func opened(p api.Policy, now int, floors ...int) *tiers.Tiers {
	x, e := tiers.New(p, now, floors...)
	if e != api.OK {
		panic(fmt.Sprint("New of ", p, ": ", e))
	}
	return x
}

// from tells how far back a tier is to reach.
func from(r reach.Reach, i int) int {
	l := r.Policy.Tiers
	if i < 0 || i >= len(l) {
		return 0
	}
	grain := l[min(i+1, len(l)-1)].Every
	back := r.Now - l[i].Keep
	back = max(back-((back%grain)+grain)%grain, 0)
	if i < len(r.Floors) {
		back = max(back, r.Floors[i])
	}
	return back
}

// sources tells what a plan is to be made of.
func sources(r reach.Reach, to api.Policy) []int {
	var all []int
	for _, x := range to.Tiers {
		var fit []int
		for i, y := range r.Policy.Tiers {
			if x.Every%y.Every == 0 {
				fit = append(fit, i)
			}
		}
		slices.SortStableFunc(fit, func(a, b int) int {
			if from(r, a) != from(r, b) {
				return from(r, a) - from(r, b)
			}
			return b - a
		})
		all = append(all, fit[0])
	}
	return all
}

// bases tells how far back the tiers of a plan are to reach, found by steps of one tick.
func bases(p plan.Plan, r reach.Reach) []int {
	var all []int
	for i, x := range p.To.Tiers {
		base := from(r, p.Sources[i])
		for base%x.Every != 0 {
			base++
		}
		all = append(all, base)
	}
	return all
}

// steps tells all steps of a plan.
func steps(to api.Policy) []plan.Step {
	var all []plan.Step
	for i, x := range to.Tiers {
		for k := range x.Shards {
			all = append(all, plan.Step{Kind: 1, Tier: i, Shard: k})
		}
	}
	return append(all, plan.Step{Kind: 2}, plan.Step{Kind: 3})
}

// row is a row of numbers that look like chance, but are the same each time.
type row uint64

// next tells the next number, below n.
func (r *row) next(n int) int {
	*r = *r*6364136223846793005 + 1442695040888963407
	return int(*r>>33) % n
}

// floors tells floors that some of the first tiers of a policy may have.
func (r *row) floors(p api.Policy) []int {
	var l []int
	for _, x := range p.Tiers[:r.next(len(p.Tiers)+1)] {
		l = append(l, x.Every*r.next(9))
	}
	return l
}

// names are those of the series that row's samples have.
func names() []string { return []string{"a", "b", "c", "ab", "z0", longest} }

// samples tells up to n of them, of times that have come.
func (r *row) samples(now, n int) []api.Sample {
	var l []api.Sample
	for range 1 + r.next(n) {
		l = append(l, at(names()[r.next(6)], max(now-r.next(8), 0), r.next(9)-4))
	}
	return l
}

func TestP1301ExampleOfTheChapter(t *testing.T) {
	r := reach.Of(web(), 257)
	p, e := plan.Make(web(), r, fifties())
	want(t, "the error", e, api.OK)
	wantPolicy(t, "To", p.To, fifties())
	wantList(t, "Sources", p.Sources, 0, 1)
	want(t, "Steps", p.Steps(), 6)
	wantList(t, "Bases", p.Bases(r), 150, 0)
	want(t, "Fill", plan.Fill, 1)
	want(t, "Check", plan.Check, 2)
	want(t, "Cut", plan.Cut, 3)
}

func TestP1301PoliciesThatMayNotBe(t *testing.T) {
	r := reach.Of(web(), 257)
	refused := func(what string, from, to api.Policy) {
		t.Helper()
		p, e := plan.Make(from, r, to)
		want(t, what+": the error", e, api.ErrRule)
		wantPolicy(t, what+": To", p.To, api.Policy{})
		wantList(t, what+": Sources", p.Sources)
	}
	for i, x := range wrong() {
		refused(fmt.Sprint("from the wrong one ", i), x, web())
		refused(fmt.Sprint("to the wrong one ", i), web(), x)
		for k, y := range wrong() {
			refused(fmt.Sprint("from the wrong one ", i, " to ", k), x, y)
		}
	}
}

func TestP1301SourceReachesTheFurthest(t *testing.T) {
	five := named("five", tier("a", 1, 10, 1), tier("b", 2, 20, 1), tier("c", 4, 40, 1), tier("d", 12, 80, 1), tier("e", 24, 400, 1))
	to := named("to", tier("a", 1, 9, 1), tier("b", 3, 9, 1), tier("c", 6, 9, 1), tier("d", 12, 90, 1), tier("e", 72, 90, 1))
	r := reach.Of(five, 1000)
	wantList(t, "the reach", r.All(), 990, 980, 960, 912, 600)
	// Of tens alone no threes are made, however far back they reach.
	wantList(t, "Sources", made(five, r, to).Sources, 0, 0, 1, 3, 4)
	// What a floor holds up reaches back less far.
	wantList(t, "Sources with a floor", made(five, reach.Of(five, 1000, 0, 0, 0, 0, 984), to).Sources, 0, 0, 1, 3, 3)
	wantList(t, "Sources with more floors", made(five, reach.Of(five, 1000, 0, 992, 980, 996, 984), to).Sources, 0, 0, 0, 2, 2)
}

func TestP1301OfSeveralTheLastOne(t *testing.T) {
	five := named("five", tier("a", 1, 10, 1), tier("b", 2, 20, 1), tier("c", 4, 40, 1), tier("d", 12, 80, 1), tier("e", 24, 400, 1))
	to := named("to", tier("a", 1, 9, 1), tier("b", 3, 9, 1), tier("c", 6, 9, 1), tier("d", 12, 90, 1), tier("e", 72, 90, 1))
	// Ahead of the first bucket that goes all of them have all.
	for now := range 10 {
		wantList(t, fmt.Sprint("at ", now), made(five, reach.Of(five, now), to).Sources, 0, 0, 1, 3, 4)
	}
	wantList(t, "where one alone reaches back less far", made(five, reach.Of(five, 9, 0, 0, 0, 0, 24), to).Sources, 0, 0, 1, 3, 3)
	wantList(t, "where all have one floor", made(five, reach.Of(five, 30, 24, 24, 24, 24, 24), to).Sources, 0, 0, 1, 3, 4)
	wantList(t, "where the last two have another one", made(five, reach.Of(five, 30, 24, 24, 24, 36, 48), to).Sources, 0, 0, 1, 2, 2)
}

func TestP1301AllPairsOfPolicies(t *testing.T) {
	held := 0
	for _, from := range policies() {
		for _, to := range policies() {
			for _, now := range []int{0, 1, 5, 13, 29, 100, 257, 1013, 6001, api.MaxTime} {
				rnd := row(now)
				for range 4 {
					r := reach.Of(from, now, rnd.floors(from)...)
					what := fmt.Sprint("from ", from.Name, " to ", to.Name, " at ", now, " with ", r.Floors)
					p := made(from, r, to)
					wantPolicy(t, what+": To", p.To, to)
					wantList(t, what+": Sources", p.Sources, sources(r, to)...)
					wantList(t, what+": Bases", p.Bases(r), bases(p, r)...)
					for i, base := range p.Bases(r) {
						if base > r.From(p.Sources[i]) {
							held++
						}
					}
				}
			}
		}
	}
	want(t, "are enough of the bases made up", held > 1000, true)
}

func TestP1301BasesAreThoseOfTheReach(t *testing.T) {
	// A plan is made at one time, and its bases are asked for at a later one.
	p := made(web(), reach.Of(web(), 0), fifties())
	wantList(t, "Sources", p.Sources, 0, 1)
	for _, c := range []struct{ now, raw, fifties int }{
		{0, 0, 0}, {109, 0, 0}, {110, 10, 0}, {257, 150, 0}, {1009, 900, 0}, {1010, 910, 50}, {1059, 950, 50}, {1060, 960, 100}, {5000, 4900, 4000},
	} {
		wantList(t, fmt.Sprint("Bases at ", c.now), p.Bases(reach.Of(web(), c.now)), c.raw, c.fifties)
	}
	wantList(t, "Bases with floors", p.Bases(reach.Of(web(), 257, 201, 130)), 201, 150)
	wantList(t, "Bases with floors on the grid", p.Bases(reach.Of(web(), 257, 200, 150)), 200, 150)
	// A floor that a tier's grid has not, and one whose next bucket begins at no int.
	wantList(t, "Bases with floors off the grid", p.Bases(reach.Of(web(), 257, 0, 151)), 150, 200)
	wantList(t, "Bases at the end of ints", p.Bases(reach.Of(web(), 257, greatest, greatest)), greatest, greatest-greatest%50)
}

func TestP1301BasesOfPlansThatNoneMade(t *testing.T) {
	r := reach.Of(web(), 2257)
	wantList(t, "the reach", r.All(), 2150, 1250)
	for _, c := range []struct {
		sources []int
		bases   []int
	}{
		{nil, []int{0, 0}}, {[]int{1}, []int{1250, 0}}, {[]int{1, 0}, []int{1250, 2150}}, {[]int{1, 1, 0, 9}, []int{1250, 1250}},
		{[]int{-1, 2}, []int{0, 0}}, {[]int{least, greatest}, []int{0, 0}}, {[]int{0, -1}, []int{2150, 0}},
	} {
		wantList(t, fmt.Sprint("Bases of ", c.sources), plan.Plan{To: fifties(), Sources: c.sources}.Bases(r), c.bases...)
	}
	for _, every := range []int{0, -1, -50, least} {
		p := plan.Plan{To: named("p", tier("a", every, 5, 1)), Sources: []int{1}}
		wantList(t, fmt.Sprint("Bases of buckets of ", every), p.Bases(r), 1250)
	}
	p := plan.Plan{To: fifties(), Sources: []int{0, 1}}
	wantList(t, "Bases of a zero reach", p.Bases(reach.Reach{}), 0, 0)
	wantList(t, "Bases without tiers", plan.Plan{Sources: []int{0, 1}}.Bases(r))
}

func TestP1302StepsInOrder(t *testing.T) {
	for _, from := range policies() {
		for _, to := range policies() {
			p := made(from, reach.Of(from, 100), to)
			wanted := steps(to)
			what := fmt.Sprint("from ", from.Name, " to ", to.Name)
			want(t, what+": Steps", p.Steps(), len(wanted))
			for k, s := range wanted {
				got, is := p.At(k)
				want(t, fmt.Sprint(what, ": At ", k), got, s)
				want(t, fmt.Sprint(what, ": is there an At ", k), is, true)
			}
			for _, k := range []int{least, least + 1, -100, -2, -1, len(wanted), len(wanted) + 1, len(wanted) + 100, greatest - 1, greatest} {
				got, is := p.At(k)
				want(t, fmt.Sprint(what, ": At ", k), got, plan.Step{})
				want(t, fmt.Sprint(what, ": is there an At ", k), is, false)
			}
		}
	}
}

func TestP1302MostAndFewestSteps(t *testing.T) {
	var l []api.Tier
	for i := range api.MaxTiers {
		l = append(l, tier(string([]byte{byte('a' + i)}), 1<<i, 100, api.MaxShards))
	}
	want(t, "the most steps", made(web(), reach.Of(web(), 0), named("p", l...)).Steps(), 42)
	want(t, "the fewest steps", made(web(), reach.Of(web(), 0), named("p", tier("a", 1, 1, 1))).Steps(), 3)
}

// filled tells whether a series' shard is filled by the first k steps, found by asking for them all.
func filled(p plan.Plan, k, i int, series string) bool {
	for n := range min(k, p.Steps()) {
		s, is := p.At(n)
		if is && s.Kind == plan.Fill && s.Tier == i && s.Shard == name.Shard(series, p.To.Tiers[i].Shards) {
			return true
		}
	}
	return false
}

func TestP1302Filled(t *testing.T) {
	for _, to := range policies() {
		p := made(web(), reach.Of(web(), 100), to)
		for _, k := range []int{least, -1, 0, 1, 2, 3, 4, 5, 6, 7, 8, 9, 10, 11, 12, 13, 14, 15, 100, greatest} {
			for i := -1; i <= len(to.Tiers); i++ {
				for _, s := range names() {
					got := p.Filled(k, i, s)
					want(t, fmt.Sprint("to ", to.Name, ": Filled of ", k, ", ", i, ", ", s), got, filled(p, k, i, s))
				}
			}
			for _, i := range []int{least, -9, -1, len(to.Tiers), 9, greatest} {
				want(t, fmt.Sprint("to ", to.Name, ": Filled of ", k, ", ", i), p.Filled(k, i, "a"), false)
			}
		}
	}
}

func TestP1302FilledGoesByShard(t *testing.T) {
	p := made(web(), reach.Of(web(), 100), fifties())
	// The fill of raw is step 0, those of fifties are steps 1 to 3, by shards.
	for shard, s := range []string{"ab", "a", "c"} {
		want(t, "the shard of "+s, name.Shard(s, 3), shard)
		for k := range 7 {
			want(t, fmt.Sprint("Filled of ", k, ", 0, ", s), p.Filled(k, 0, s), k >= 1)
			want(t, fmt.Sprint("Filled of ", k, ", 1, ", s), p.Filled(k, 1, s), k >= shard+2)
		}
	}
}

func TestP1302ShardsThatMayNotBe(t *testing.T) {
	// A tier of no shards, or of less, has no fills.
	for _, n := range []int{0, -1, -7, least} {
		p := plan.Plan{To: named("p", tier("a", 1, 5, 2), tier("b", 2, 5, n), tier("c", 4, 5, 1)), Sources: []int{0, 0, 0}}
		what := fmt.Sprint(n, " shards")
		want(t, what+": Steps", p.Steps(), 5)
		for k, wanted := range []plan.Step{{1, 0, 0}, {1, 0, 1}, {1, 2, 0}, {2, 0, 0}, {3, 0, 0}, {}} {
			got, is := p.At(k)
			want(t, fmt.Sprint(what, ": At ", k), got, wanted)
			want(t, fmt.Sprint(what, ": is there an At ", k), is, k < 5)
		}
		for _, k := range []int{least, -1, 0, 1, 3, 5, 9, greatest} {
			want(t, fmt.Sprint(what, ": Filled of ", k, ", 1"), p.Filled(k, 1, "a"), false)
			want(t, fmt.Sprint(what, ": Filled of ", k, ", 2"), p.Filled(k, 2, "a"), k >= 3)
		}
		want(t, what+": Bound", p.Bound(4), 11)
	}
	// As many shards as an int holds, and more.
	p := plan.Plan{To: named("p", tier("a", 1, 5, greatest), tier("b", 2, 5, greatest), tier("c", 4, 5, 3)), Sources: []int{0, 0, 0}}
	want(t, "the most shards: Steps", p.Steps(), greatest)
	for _, c := range []struct {
		k      int
		wanted plan.Step
	}{{0, plan.Step{Kind: 1}}, {greatest - 1, plan.Step{Kind: 1, Shard: greatest - 1}}, {greatest, plan.Step{Kind: 1, Tier: 1}}} {
		got, is := p.At(c.k)
		want(t, fmt.Sprint("the most shards: At ", c.k), got, c.wanted)
		want(t, fmt.Sprint("the most shards: is there an At ", c.k), is, true)
	}
	want(t, "the most shards: Filled, tier 0", p.Filled(greatest, 0, "a"), true)
	want(t, "the most shards: Filled, tier 1", p.Filled(greatest, 1, "a"), false)
	want(t, "the most shards: Filled, tier 2", p.Filled(greatest, 2, "a"), false)
	shard := int(name.Hash("a"))
	want(t, "many shards: ahead of the fill", p.Filled(shard, 0, "a"), false)
	want(t, "many shards: behind the fill", p.Filled(shard+1, 0, "a"), true)
	want(t, "the most shards: Bound", p.Bound(0), greatest)
	almost := plan.Plan{To: named("p", tier("a", 1, 5, greatest-2)), Sources: []int{0}}
	want(t, "almost the most shards: Steps", almost.Steps(), greatest)
	fewer := plan.Plan{To: named("p", tier("a", 1, 5, greatest-3)), Sources: []int{0}}
	want(t, "one shard fewer: Steps", fewer.Steps(), greatest-1)
}

// put puts samples that must be taken.
func put(x *tiers.Tiers, l ...api.Sample) {
	if e := x.Put(l...); e != api.OK {
		panic(fmt.Sprint("Put of ", l, ": ", e))
	}
}

// stocked is a store of the policy of chapter 8 at 257, which reaches back to 150 and to 0.
func stocked() *tiers.Tiers {
	x := opened(web(), 257)
	put(x, at("a", 150, 1), at("a", 153, 2), at("b", 250, 4), at("a", 160, 5), at("a", 257, 7), at("b", 203, 8), at("b", 202, -1))
	x.Load(1, rec("a", 0, 11), rec("a", 140, 3, 4), rec("c", 50, 6), rec("c", 90, 2))
	return x
}

func TestP1303Build(t *testing.T) {
	x := stocked()
	p := made(x.Policy, x.Reach, fifties())
	b, e := p.Build(x)
	want(t, "the error", e, api.OK)
	want(t, "Now", b.Now, 257)
	wantPolicy(t, "the policy", b.Policy, fifties())
	wantList(t, "Floors", b.Floors, 150, 0)
	wantList(t, "All", b.All(), 200, 0)
	wantList(t, "raw", b.Records(0), rec("a", 257, 7), rec("b", 202, -1), rec("b", 203, 8), rec("b", 250, 4))
	wantList(t, "fifties", b.Records(1), rec("a", 0, 11), rec("a", 100, 3, 4), rec("a", 150, 1, 2, 5), rec("a", 250, 7), rec("b", 200, 8, -1), rec("b", 250, 4), rec("c", 50, 6, 2))
	wanted := stocked()
	want(t, "what it was made of", x.Same(wanted), true)
}

func TestP1303BuildOfOneTierThatHasAll(t *testing.T) {
	x := stocked()
	// Sevens are made of raw alone, which has nothing below 150; the first whole bucket begins at 154.
	to := named("to", tier("raw", 1, 200, 1), tier("sevens", 7, 500, 2), tier("seventies", 70, 500, 1))
	p := made(x.Policy, x.Reach, to)
	wantList(t, "Sources", p.Sources, 0, 0, 1)
	b, e := p.Build(x)
	want(t, "the error", e, api.OK)
	wantList(t, "Floors", b.Floors, 150, 154, 0)
	wantList(t, "All", b.All(), 150, 154, 0)
	wantList(t, "raw", b.Records(0), x.Records(0)...)
	wantList(t, "sevens", b.Records(1), rec("a", 154, 5), rec("a", 252, 7), rec("b", 196, -1), rec("b", 203, 8), rec("b", 245, 4))
	wantList(t, "seventies", b.Records(2), rec("a", 0, 11), rec("a", 140, 3, 4, 1, 2, 5), rec("a", 210, 7), rec("b", 140, 8, -1), rec("b", 210, 4), rec("c", 0, 6), rec("c", 70, 2))
}

func TestP1303BuildAtALaterTime(t *testing.T) {
	x := stocked()
	p := made(x.Policy, x.Reach, fifties())
	for _, n := range []int{1, 2, 50, 400, 700, 5000} {
		x.Tick(n)
		b, e := p.Build(x)
		want(t, fmt.Sprint("at ", x.Now, ": the error"), e, api.OK)
		want(t, fmt.Sprint("at ", x.Now, ": Now"), b.Now, x.Now)
		wantList(t, fmt.Sprint("at ", x.Now, ": Floors"), b.Floors, bases(p, x.Reach)...)
		wantBuilt(t, fmt.Sprint("at ", x.Now), p, x)
	}
	want(t, "is all gone", x.Empty(), true)
}

func TestP1303PlansThatDoNotFit(t *testing.T) {
	refused := func(what string, p plan.Plan, x *tiers.Tiers) {
		t.Helper()
		b, e := p.Build(x)
		want(t, what+": the error", e, api.ErrArg)
		want(t, what+": is there something", b != nil, false)
	}
	x := stocked()
	refused("nil tiers", made(web(), x.Reach, fifties()), nil)
	refused("zero tiers", made(web(), x.Reach, fifties()), &tiers.Tiers{})
	refused("tiers that have their reach alone", made(web(), x.Reach, fifties()), &tiers.Tiers{Reach: x.Reach})
	for i, to := range wrong() {
		for n := range 4 {
			refused(fmt.Sprint("to the wrong one ", i, " with ", n, " sources"), plan.Plan{To: to, Sources: make([]int, n)}, x)
		}
		refused(fmt.Sprint("to the wrong one ", i, ", nil tiers"), plan.Plan{To: to, Sources: make([]int, len(to.Tiers))}, nil)
	}
	for _, l := range [][]int{nil, {}, {0}, {1}, {0, 1, 1}, {0, 0, 0}, {0, 1, 2, 3, 4, 5}, {0, 2}, {0, -1}, {-1, 0}, {2, 0}, {least, 0}, {0, greatest}, {1, 1}, {1, 0}} {
		refused(fmt.Sprint("the sources ", l), plan.Plan{To: fifties(), Sources: l}, x)
	}
	for _, l := range [][]int{{0, 0}, {0, 1}} {
		b, e := plan.Plan{To: fifties(), Sources: l}.Build(x)
		want(t, fmt.Sprint("the sources ", l, ": the error"), e, api.OK)
		want(t, fmt.Sprint("the sources ", l, ": is there something"), b != nil, true)
	}
	// Tens do not make up sevens, and there must be a tier for each.
	to := named("to", tier("a", 1, 9, 1), tier("b", 7, 9, 1), tier("c", 14, 99, 1))
	refused("tens for sevens", plan.Plan{To: to, Sources: []int{0, 1, 0}}, x)
	refused("tens for fourteens", plan.Plan{To: to, Sources: []int{0, 0, 1}}, x)
	refused("two sources for three tiers", plan.Plan{To: to, Sources: []int{0, 0}}, x)
	refused("a plan from another policy", plan.Plan{To: fifties(), Sources: []int{0, 2}}, x)
	refused("coarser ones for finer ones", plan.Plan{To: named("to", tier("a", 1, 9, 1), tier("b", 5, 99, 1)), Sources: []int{0, 1}}, x)
	x.Now = -1
	refused("tiers of a time that may not be", made(web(), x.Reach, fifties()), x)
	x.Now = api.MaxTime + 1
	refused("tiers of a time behind the clock's end", made(web(), x.Reach, fifties()), x)
}

func TestP1303SourcesAreTakenAsTheyAre(t *testing.T) {
	// Another one than Make would take: raw reaches back to 150 alone.
	x := stocked()
	b, e := plan.Plan{To: fifties(), Sources: []int{0, 0}}.Build(x)
	want(t, "the error", e, api.OK)
	wantList(t, "Floors", b.Floors, 150, 150)
	wantList(t, "fifties", b.Records(1), rec("a", 150, 1, 2, 5), rec("a", 250, 7), rec("b", 200, 8, -1), rec("b", 250, 4))
}

func TestP1303Bound(t *testing.T) {
	p := made(web(), reach.Of(web(), 257), fifties())
	for _, c := range []struct{ need, bound int }{
		{0, 4}, {1, 6}, {5, 14}, {4096, 8196}, {-1, 2}, {-2, 0}, {-10, -16}, {1 << 62, greatest}, {1<<62 - 1, greatest}, {1<<62 - 2, greatest}, {1<<62 - 3, greatest - 1},
		{greatest, greatest}, {least, least}, {-1 << 62, least + 4}, {-1<<62 - 1, least + 2}, {-1<<62 - 2, least}, {-1<<62 - 3, least},
	} {
		want(t, fmt.Sprint("Bound of ", c.need), p.Bound(c.need), c.bound)
	}
	three := made(web(), reach.Of(web(), 257), web())
	want(t, "Bound of three shards, at the least end", three.Bound(-1<<62-1), least+1)
	want(t, "Bound of three shards, one below the least end", three.Bound(-1<<62-2), least)
	want(t, "Bound of three shards, at the greatest end", three.Bound(1<<62-2), greatest)
	want(t, "Bound of three shards, two above the greatest end", three.Bound(1<<62-1), greatest)
	for _, to := range policies() {
		p := made(web(), reach.Of(web(), 257), to)
		for _, need := range []int{0, 1, 7, 300} {
			want(t, fmt.Sprint("to ", to.Name, ": Bound of ", need), p.Bound(need), 2*need+p.Steps()-2)
		}
	}
}

// wantBuilt holds what a plan builds against what its sources have, bucket by bucket.
func wantBuilt(t *testing.T, what string, p plan.Plan, x *tiers.Tiers) *tiers.Tiers {
	t.Helper()
	b, e := p.Build(x)
	if e != api.OK {
		t.Fatalf("%s: Build: %d", what, e)
	}
	wantList(t, what+": Bases", b.Floors, p.Bases(x.Reach)...)
	for i, y := range p.To.Tiers {
		has := x.Records(p.Sources[i])
		var wanted []api.Record
		for _, s := range has {
			start := s.Start - s.Start%y.Every
			if start < from(b.Reach, i) {
				continue
			}
			if k := len(wanted) - 1; k >= 0 && wanted[k].Name == s.Name && wanted[k].Start == start {
				wanted[k].Agg = agg.Merge(wanted[k].Agg, s.Agg)
				continue
			}
			s.Start = start
			wanted = append(wanted, s)
		}
		wantList(t, fmt.Sprint(what, ": tier ", i), b.Records(i), wanted...)
		for _, s := range b.Records(i) {
			// What is there of a bucket is all of it: the source reaches back to its start.
			want(t, fmt.Sprint(what, ": tier ", i, ": is ", s.Start, " there whole"), from(x.Reach, p.Sources[i]) <= s.Start, true)
		}
	}
	return b
}

// store is tiers, and all samples that they ever took.
type store struct {
	*tiers.Tiers
	taken []api.Sample
}

// step puts some samples, or lets time go on.
func (r *row) step(s *store) {
	if r.next(4) == 0 {
		s.Tick(r.next(5) * r.next(4))
		return
	}
	if l := r.samples(s.Now, 4); s.Put(l...) == api.OK {
		s.taken = append(s.taken, l...)
	}
}

// wantView holds tiers against the plain model of all samples that ever came.
func wantView(t *testing.T, what string, x *tiers.Tiers, taken ...api.Sample) {
	t.Helper()
	for i := range x.Policy.Tiers {
		wantList(t, fmt.Sprint(what, ": the view of tier ", i), x.Records(i), view.Tier(x.Reach, i, taken...)...)
	}
}

func TestP1304BuildHasWhatItsSourcesHave(t *testing.T) {
	taken, changed, cut := 0, 0, 0
	for seed := range 150 {
		rnd := row(seed)
		first := policies()[seed%len(policies())]
		s := &store{Tiers: opened(first, rnd.next(60), rnd.floors(first)...)}
		for i := range 60 {
			rnd.step(s)
			if rnd.next(8) > 0 {
				continue
			}
			to := policies()[rnd.next(len(policies()))]
			what := fmt.Sprint("seed ", seed, ", step ", i, ", from ", s.Policy.Name, " to ", to.Name)
			was := s.Copy()
			p := made(s.Policy, s.Reach, to)
			b := wantBuilt(t, what, p, s.Tiers)
			// It is what an empty store under the new policy would have, down to the bases.
			wantView(t, what, b, s.taken...)
			want(t, what+": did what it was made of stay", s.Same(was), true)
			for k, base := range b.Floors {
				if base > from(s.Reach, p.Sources[k]) && b.From(k) == base {
					cut++
				}
			}
			if rnd.next(2) == 0 {
				s.Tiers = b
				changed++
			}
		}
		wantView(t, fmt.Sprint("seed ", seed, ", at the end"), s.Tiers, s.taken...)
		taken += len(s.taken)
	}
	want(t, "are enough of them taken", taken > 5000, true)
	want(t, "are there changes enough", changed > 200, true)
	want(t, "are buckets enough left out that are there in part", cut > 100, true)
}

func TestP1304PartsOfBuckets(t *testing.T) {
	// Raw reaches back to a floor alone; of the bucket that this cuts in two nothing is there, of the next one all.
	for floor := range 40 {
		x := opened(named("p", tier("a", 1, 100, 1)), 60, floor)
		for i := floor; i <= 60; i++ {
			put(x, at("a", i, i))
		}
		b, e := made(x.Policy, x.Reach, named("q", tier("a", 1, 100, 1), tier("b", 10, 100, 1))).Build(x)
		want(t, fmt.Sprint("the floor ", floor, ": the error"), e, api.OK)
		whole := (floor + 9) / 10 * 10
		l := b.Records(1)
		want(t, fmt.Sprint("the floor ", floor, ": the first bucket"), l[0].Start, whole)
		want(t, fmt.Sprint("the floor ", floor, ": its values"), l[0].Agg.Count, 10)
		want(t, fmt.Sprint("the floor ", floor, ": how many buckets"), len(l), 7-whole/10)
		want(t, fmt.Sprint("the floor ", floor, ": how much of raw"), len(b.Records(0)), 61-floor)
	}
}

func TestP1304ZeroPlan(t *testing.T) {
	var p plan.Plan
	want(t, "Steps", p.Steps(), 0)
	for _, k := range []int{least, -1, 0, 1, 2, greatest} {
		s, is := p.At(k)
		want(t, fmt.Sprint("At ", k), s, plan.Step{})
		want(t, fmt.Sprint("is there an At ", k), is, false)
		want(t, fmt.Sprint("Filled of ", k), p.Filled(k, 0, "a"), false)
	}
	wantList(t, "Bases", p.Bases(reach.Of(web(), 257)))
	for _, x := range []*tiers.Tiers{nil, {}, opened(web(), 257), stocked()} {
		b, e := p.Build(x)
		want(t, "Build: the error", e, api.ErrArg)
		want(t, "Build: is there something", b != nil, false)
	}
	want(t, "Bound", p.Bound(3), 6)
	// Empty lists are nil ones.
	p = plan.Plan{To: api.Policy{Tiers: []api.Tier{}}, Sources: []int{}}
	want(t, "Steps with empty lists", p.Steps(), 0)
	_, is := p.At(0)
	want(t, "is there an At 0 with empty lists", is, false)
	// One that leads to a policy without tiers has nothing to fill.
	p.To.Name = "p"
	want(t, "Steps without tiers", p.Steps(), 2)
	s, _ := p.At(0)
	want(t, "At 0 without tiers", s, plan.Step{Kind: plan.Check})
	s, _ = p.At(1)
	want(t, "At 1 without tiers", s, plan.Step{Kind: plan.Cut})
	want(t, "Steps of sources alone", plan.Plan{Sources: []int{0}}.Steps(), 2)
	want(t, "Steps of tiers alone", plan.Plan{To: named("", web().Tiers...)}.Steps(), 5)
	s, is = plan.Plan{To: named("", web().Tiers...)}.At(1)
	want(t, "At 1 of tiers alone", s, plan.Step{Kind: plan.Fill, Shard: 1})
	want(t, "is there an At 1 of tiers alone", is, true)
}

// wantApart wants texts to share no bytes with others.
func wantApart(t *testing.T, what string, l []string, others ...string) {
	t.Helper()
	want(t, what+": are there any", len(l) > 0 && len(others) > 0, true)
	for _, r := range l {
		for _, s := range others {
			from, to := uintptr(unsafe.Pointer(unsafe.StringData(r))), uintptr(unsafe.Pointer(unsafe.StringData(s)))
			if from < to+uintptr(len(s)) && to < from+uintptr(len(r)) {
				t.Errorf("%s: %q and %q share their bytes", what, r, s)
			}
		}
	}
}

// texts are the names of a policy.
func texts(p api.Policy) []string {
	all := []string{p.Name}
	for _, x := range p.Tiers {
		all = append(all, x.Name)
	}
	return all
}

// series are the names of all records of tiers.
func series(x *tiers.Tiers) []string {
	var all []string
	for i := range x.Policy.Tiers {
		for _, r := range x.Records(i) {
			all = append(all, r.Name)
		}
	}
	return all
}

func TestTextsAreKeptApart(t *testing.T) {
	text := strings.Clone("web raw tens cpu disk")
	to := named(text[:3], tier(text[4:7], 1, 100, 2), tier(text[8:12], 10, 1000, 1))
	x := stocked()
	p := made(x.Policy, x.Reach, to)
	wantApart(t, "the plan and what it was made of", texts(p.To), text)
	put(x, at(text[13:16], 200, 1), at(text[17:], 201, 1))
	b, _ := p.Build(x)
	c, _ := p.Build(x)
	wantApart(t, "the policy of what was built and the plan's", texts(b.Policy), texts(p.To)...)
	wantApart(t, "the policies of two that were built", texts(b.Policy), texts(c.Policy)...)
	wantApart(t, "the records of what was built and what was put", series(b), text)
	wantApart(t, "the records of two that were built", series(b), series(c)...)
	wantApart(t, "the records and those of what it was built of", series(b), series(x)...)
}

func TestAnswersOwnTheirMemory(t *testing.T) {
	from, to := web(), fifties()
	r := reach.Of(from, 257, 3, 10)
	p := made(from, r, to)
	q := made(from, r, to)
	wantList(t, "the floors that were handed in", r.Floors, 3, 10)
	to.Tiers[0], from.Tiers[0], r.Floors[0], r.Policy.Tiers[1] = tier("z", 9, 9, 9), tier("z", 9, 9, 9), 99, tier("z", 9, 9, 9)
	wantPolicy(t, "To, when what was handed in changes", p.To, fifties())
	p.To.Tiers[1], p.Sources[1] = tier("z", 9, 9, 9), 9
	wantPolicy(t, "To, when another plan changes", q.To, fifties())
	wantList(t, "Sources, when another plan changes", q.Sources, 0, 1)

	x := stocked()
	l := q.Bases(x.Reach)
	l[0], l[1] = 99, 99
	_ = append(l, 1)
	wantList(t, "Bases, when what was told changes", q.Bases(x.Reach), 150, 0)

	b, _ := q.Build(x)
	c, _ := q.Build(x)
	was := b.Copy()
	put(x, at("a", 250, 9))
	x.Tick(900)
	put(c, at("a", 250, 9))
	c.Tick(900)
	c.Policy.Tiers[0], c.Floors[0] = tier("z", 9, 9, 9), 99
	want(t, "what was built, when the others change", b.Same(was), true)
	wantPolicy(t, "To, when what was built changes", q.To, fifties())
	y := stocked()
	put(b, at("a", 250, 9))
	b.Tick(5000)
	want(t, "what it was built of, when it changes", y.Same(stocked()), true)
	d, _ := q.Build(y)
	want(t, "what is built anew", d.Same(was), true)
}

func TestManyRecordsAtOnce(t *testing.T) {
	x := opened(named("p", tier("a", 1, 3000, 1), tier("b", 10, 100000, 4)), 99999)
	var fine, coarse []api.Record
	for i := 97000; i < 100000; i++ {
		for k := range 20 {
			fine = append(fine, rec(fmt.Sprint("s", k), i, 1))
		}
	}
	for i := 0; i < 100000; i += 10 {
		coarse = append(coarse, rec("s0", i, 1), rec("s1", i, 1))
	}
	x.Load(0, fine...)
	x.Load(1, coarse...)
	b, e := made(x.Policy, x.Reach, named("q", tier("a", 1, 500, 1), tier("b", 20, 4000, 2), tier("c", 1000, 50000, 8))).Build(x)
	want(t, "the error", e, api.OK)
	wantList(t, "Froms", b.All(), 99480, 95000, 49000)
	want(t, "raw", len(b.Records(0)), 520*20)
	want(t, "twenties", len(b.Records(1)), 250*2)
	want(t, "thousands", len(b.Records(2)), 51*2)
}

func TestReadme(t *testing.T) {
	x := opened(web(), 257)
	put(x, at("cpu", 160, 4), at("cpu", 199, 6), at("cpu", 210, 5))
	to := fifties()
	p, e := plan.Make(x.Policy, x.Reach, to)
	want(t, "the error", e, api.OK)
	wantList(t, "Sources", p.Sources, 0, 1)
	want(t, "Steps", p.Steps(), 6)
	s, is := p.At(2)
	want(t, "At 2", s, plan.Step{Kind: plan.Fill, Tier: 1, Shard: 1})
	want(t, "is there an At 2", is, true)
	want(t, "the shard of cpu", name.Shard("cpu", 3), 1)
	want(t, "Filled of 2", p.Filled(2, 1, "cpu"), false)
	want(t, "Filled of 3", p.Filled(3, 1, "cpu"), true)
	wantList(t, "Bases", p.Bases(x.Reach), 150, 0)
	y, e := p.Build(x)
	want(t, "Build: the error", e, api.OK)
	wantList(t, "tier 0", y.Records(0), rec("cpu", 210, 5))
	wantList(t, "tier 1", y.Records(1), rec("cpu", 150, 4, 6), rec("cpu", 200, 5))
	want(t, "Need", y.Need(), 2)
	want(t, "Bound", p.Bound(y.Need()), 8)
}
