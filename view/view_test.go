package view_test

import (
	"fmt"
	"math"
	"slices"
	"strings"
	"testing"
	"unsafe"

	"sediment/agg"
	"sediment/api"
	"sediment/grid"
	"sediment/reach"
	"sediment/tiers"
	"sediment/view"
)

const (
	least    = math.MinInt
	greatest = math.MaxInt
	longest  = "fifteen.bytes-_" // a name of as many bytes as it may have
)

// want holds an answer against what is wanted.
func want[T comparable](t *testing.T, what string, got, wanted T) {
	t.Helper()
	if got != wanted {
		t.Errorf("%s: %v, not %v", what, got, wanted)
	}
}

// wantList holds a list against what is wanted; nil and empty ones are one.
func wantList[T comparable](t *testing.T, what string, got []T, wanted ...T) {
	t.Helper()
	if !slices.Equal(got, wanted) {
		t.Errorf("%s: %v, not %v", what, got, wanted)
	}
}

// wantLists holds a list of lists against what is wanted.
func wantLists(t *testing.T, what string, got [][]api.Record, wanted ...[]api.Record) {
	t.Helper()
	want(t, what+": how many lists", len(got), len(wanted))
	for i := range min(len(got), len(wanted)) {
		wantList(t, fmt.Sprint(what, ": list ", i), got[i], wanted[i]...)
	}
}

// named is a policy of that name and those tiers.
func named(s string, l ...api.Tier) api.Policy { return api.Policy{Name: s, Tiers: l} }

// tier is a tier.
func tier(s string, every, keep, shards int) api.Tier {
	return api.Tier{Name: s, Every: every, Keep: keep, Shards: shards}
}

// web is the policy of chapter 8.
func web() api.Policy { return named("web", tier("raw", 1, 100, 2), tier("tens", 10, 1000, 1)) }

// small is a policy whose tiers soon give up what they have.
func small() api.Policy {
	return named("small", tier("a", 1, 3, 1), tier("b", 2, 5, 3), tier("c", 6, 12, 2))
}

// policies are policies of one to five tiers.
func policies() []api.Policy {
	return []api.Policy{
		web(), small(), named("one", tier("a", 1, 1, 1)), named("p", tier("a", 1, 7, 8)), named("q", tier("a", 1, 4, 2), tier("b", 3, 4, 1)),
		named("r", tier("a", 1, 2, 1), tier("b", 2, 2, 1), tier("c", 4, 9, 2), tier("d", 8, 16, 3), tier("e", 24, 40, 4)),
		named("s", tier("a", 1, 30, 1), tier("b", 5, 45, 2), tier("c", 15, 90, 1)),
	}
}

// at is a sample.
func at(s string, time, v int) api.Sample { return api.Sample{Name: s, Time: time, Value: v} }

// rec is the record of these values.
func rec(s string, start int, v ...int) api.Record {
	return api.Record{Name: s, Start: start, Agg: agg.Of(v...)}
}

// isName tells whether s may be a name.
func isName(s string) bool {
	return len(s) >= 1 && len(s) <= 15 && strings.Trim(s, "abcdefghijklmnopqrstuvwxyz0123456789._-") == ""
}

// from tells how far back a tier is to reach.
func from(r reach.Reach, i int) int {
	l := r.Policy.Tiers
	grain := l[min(i+1, len(l)-1)].Every
	back := r.Now - l[i].Keep
	back = max(back-((back%grain)+grain)%grain, 0)
	if i < len(r.Floors) {
		back = max(back, r.Floors[i])
	}
	return back
}

// series are the names that samples have, rising, each once; wrong ones too.
func series(l []api.Sample) []string {
	var names []string
	for _, s := range l {
		names = append(names, s.Name)
	}
	slices.Sort(names)
	return slices.Compact(names)
}

// values are those of a series from a time on, below another one.
func values(l []api.Sample, s string, from, to int) []int {
	var v []int
	for _, x := range l {
		if x.Name == s && x.Time >= from && x.Time < to {
			v = append(v, x.Value)
		}
	}
	return v
}

// model is what Tier is to tell of small times, found by going through all series and all buckets one by one.
func model(r reach.Reach, i int, l ...api.Sample) []api.Record {
	if i < 0 || i >= len(r.Policy.Tiers) {
		return nil
	}
	last := 0
	for _, s := range l {
		last = max(last, s.Time)
	}
	var all []api.Record
	for _, s := range series(l) {
		every := r.Policy.Tiers[i].Every
		for start := 0; start <= last; start += every {
			v := values(l, s, start, start+every)
			if isName(s) && start >= from(r, i) && len(v) > 0 {
				all = append(all, rec(s, start, v...))
			}
		}
	}
	return all
}

// modelAsk is what Ask is to tell of small times.
func modelAsk(r reach.Reach, s string, since, to int, l ...api.Sample) (api.Answer, api.Errno) {
	if !isName(s) || since < 0 || to < since {
		return api.Answer{}, api.ErrArg
	}
	a := api.Answer{Tier: len(r.Policy.Tiers) - 1}
	for i := range r.Policy.Tiers {
		if from(r, i) <= since {
			a.Tier = i
			break
		}
	}
	for _, x := range model(r, a.Tier, l...) {
		if x.Name == s && x.Start >= since && x.Start < to {
			a.Records = append(a.Records, x)
		}
	}
	return a, api.OK
}

// wantView holds Tier, All and Count against the model, and wants what is handed in to stay.
func wantView(t *testing.T, what string, r reach.Reach, l ...api.Sample) {
	t.Helper()
	was := slices.Clone(l)
	var all [][]api.Record
	var counts []int
	for i := range r.Policy.Tiers {
		wanted := model(r, i, l...)
		all, counts = append(all, wanted), append(counts, 0)
		for _, x := range wanted {
			counts[i] += x.Agg.Count
		}
		wantList(t, fmt.Sprint(what, ": Tier ", i), view.Tier(r, i, l...), wanted...)
	}
	wantLists(t, what+": All", view.All(r, l...), all...)
	wantList(t, what+": Count", view.Count(r, l...), counts...)
	for _, i := range []int{least, -1, len(r.Policy.Tiers), 9, greatest} {
		wantList(t, fmt.Sprint(what, ": Tier ", i), view.Tier(r, i, l...))
	}
	wantList(t, what+": what was handed in", l, was...)
}

// wantAsk holds what Ask tells against the model.
func wantAsk(t *testing.T, what string, r reach.Reach, s string, from, to int, l ...api.Sample) {
	t.Helper()
	a, e := view.Ask(r, s, from, to, l...)
	b, wanted := modelAsk(r, s, from, to, l...)
	if e != wanted || a.Tier != b.Tier || !slices.Equal(a.Records, b.Records) {
		t.Errorf("%s: Ask(%q, %d, %d): %v, %d, not %v, %d", what, s, from, to, a, e, b, wanted)
	}
}

func TestP1201ExampleOfNoSamples(t *testing.T) {
	for _, l := range [][]api.Sample{nil, {}} {
		r := reach.Of(web(), 125)
		wantLists(t, "All", view.All(r, l...), nil, nil)
		wantList(t, "Count", view.Count(r, l...), 0, 0)
		for i := -1; i < 4; i++ {
			wantList(t, fmt.Sprint("Tier ", i), view.Tier(r, i, l...))
		}
	}
}

func TestP1201BucketsOfEachTier(t *testing.T) {
	r := reach.Of(web(), 125)
	l := []api.Sample{at("b", 21, 4), at("a", 25, 6), at("b", 21, -1), at("b", 29, 7), at("a", 30, 5), at("b", 20, 3), at("b", 3, 1), at("a", 19, 8), at("a", 125, 2)}
	// The first tier reaches back to 20, and the second one to 0.
	fine := []api.Record{rec("a", 25, 6), rec("a", 30, 5), rec("a", 125, 2), rec("b", 20, 3), rec("b", 21, 4, -1), rec("b", 29, 7)}
	tens := []api.Record{rec("a", 10, 8), rec("a", 20, 6), rec("a", 30, 5), rec("a", 120, 2), rec("b", 0, 1), rec("b", 20, 4, -1, 7, 3)}
	wantList(t, "Tier 0", view.Tier(r, 0, l...), fine...)
	wantList(t, "Tier 1", view.Tier(r, 1, l...), tens...)
	wantLists(t, "All", view.All(r, l...), fine, tens)
	wantList(t, "Count", view.Count(r, l...), 7, 9)
}

func TestP1201WhatIsLeftOut(t *testing.T) {
	r := reach.Of(web(), 99)
	good := []api.Sample{at("a", 0, 1), at(longest, 5, 2), at("a", 99, 3), at("0", 9, 4), at(".", 9, 5), at("_-", 9, 6)}
	var wrong []api.Sample
	for _, s := range []string{"", "A", "a b", "a\x00", "é", "a\n", longest + "x", strings.Repeat("a", 300)} {
		wrong = append(wrong, at(s, 5, 9), at(s, 0, 9), at(s, -1, 9), at(s, 99, 9))
	}
	for _, time := range []int{-1, -2, -9, -10, -11, -1000, least + 1, least} {
		wrong = append(wrong, at("a", time, 9), at(longest, time, 9))
	}
	for i := range r.Policy.Tiers {
		wantList(t, fmt.Sprint("Tier ", i, " of wrong ones alone"), view.Tier(r, i, wrong...))
		wanted := view.Tier(r, i, good...)
		want(t, fmt.Sprint("Tier ", i, ": is there something"), len(wanted) >= 5, true)
		for k, s := range wrong {
			mixed := slices.Insert(slices.Clone(good), k%(len(good)+1), s)
			wantList(t, fmt.Sprint("Tier ", i, " with ", s), view.Tier(r, i, mixed...), wanted...)
		}
		wantList(t, fmt.Sprint("Tier ", i, " with all of them"), view.Tier(r, i, append(wrong, good...)...), wanted...)
	}
	wantLists(t, "All of wrong ones alone", view.All(r, wrong...), nil, nil)
	wantList(t, "Count of wrong ones alone", view.Count(r, wrong...), 0, 0)
	wantList(t, "Count of all", view.Count(r, append(wrong, good...)...), 6, 6)
	wantView(t, "the good ones", r, good...)
}

func TestP1201EachByteOfAName(t *testing.T) {
	r := reach.Of(web(), 9)
	for c := range 256 {
		s := "a" + string([]byte{byte(c)}) + "z"
		n := 0
		if isName(s) {
			n = 1
		}
		what := fmt.Sprint("the byte ", c)
		want(t, what+": Tier", len(view.Tier(r, 1, at(s, 5, 1))), n)
		wantList(t, what+": Count", view.Count(r, at(s, 5, 1)), n, n)
		_, e := view.Ask(r, s, 0, 9, at(s, 5, 1))
		want(t, what+": Ask", e == api.OK, n == 1)
	}
}

func TestP1201OrderIsThatOfNameLess(t *testing.T) {
	r := reach.Of(named("p", tier("a", 1, 1000, 1)), 200)
	names := []string{"-", "--", ".", "0", "10", "9", "_", "a", "a-", "a.", "a0", "a_", "aa", "ab", "b", longest, "z"}
	slices.Sort(names)
	var l []api.Sample
	var wanted []api.Record
	for _, s := range names {
		for _, time := range []int{0, 9, 10, 99, 100, 200} {
			l, wanted = append(l, at(s, time, time)), append(wanted, rec(s, time, time))
		}
	}
	for turn := range 30 {
		wantList(t, fmt.Sprint("in the order of turn ", turn), view.Tier(r, 0, l...), wanted...)
		rnd := row(turn)
		for i := range l {
			k := rnd.next(i + 1)
			l[i], l[k] = l[k], l[i]
		}
	}
	slices.Reverse(wanted)
	want(t, "is the order one at all", slices.Equal(view.Tier(r, 0, l...), wanted), false)
}

func TestP1201AnyValue(t *testing.T) {
	r := reach.Of(web(), 9)
	l := []api.Sample{at("a", 1, greatest), at("b", 2, least), at("a", 3, greatest), at("c", 1, 0), at("b", 2, least), at("d", 4, -7), at("d", 4, greatest), at("c", 1, 0)}
	wanted := []api.Record{
		{Name: "a", Agg: api.Agg{Count: 2, Lo: 1<<64 - 2, Min: greatest, Max: greatest}},
		{Name: "b", Agg: api.Agg{Count: 2, Hi: -1, Min: least, Max: least}},
		{Name: "c", Agg: api.Agg{Count: 2}},
		{Name: "d", Agg: api.Agg{Count: 2, Lo: greatest - 7, Min: -7, Max: greatest}},
	}
	got := view.Tier(r, 1, l...)
	wantList(t, "Tier 1", got, wanted...)
	// Sums that do not fit are flagged, never wrapped.
	for i, c := range []struct {
		sum  int
		over bool
	}{{greatest, true}, {least, true}, {0, false}, {greatest - 7, false}} {
		sum, over := agg.Sum(got[i].Agg)
		want(t, fmt.Sprint("the sum of ", got[i].Name), sum, c.sum)
		want(t, fmt.Sprint("is the sum of ", got[i].Name, " over"), over, c.over)
	}
	a, _ := view.Ask(reach.Of(web(), 200), "a", 0, 1, l...)
	wantList(t, "Ask", a.Records, wanted[0])
	wantList(t, "Count", view.Count(r, l...), 8, 8)
}

func TestP1201Floors(t *testing.T) {
	var l []api.Sample
	for i := range 30 {
		l = append(l, at("a", i, i), at("b", i, 1))
	}
	// What begins below a floor is not there, not even with what came above it.
	r := reach.Of(web(), 29, 15, 20)
	wantList(t, "the second tier", view.Tier(r, 1, at("a", 15, 1), at("a", 19, 2), at("a", 20, 4)), rec("a", 20, 4))
	wantList(t, "Count", view.Count(r, at("a", 14, 1), at("a", 15, 1), at("a", 19, 2), at("a", 20, 4)), 3, 1)
	for a := -1; a <= 31; a++ {
		wantView(t, fmt.Sprint("the floor ", a), reach.Of(small(), 29, a), l...)
		wantView(t, fmt.Sprint("the second floor ", a), reach.Of(small(), 29, 0, a), l...)
		wantView(t, fmt.Sprint("the third floor ", a), reach.Of(small(), 29, 28, 5, a), l...)
		wantView(t, fmt.Sprint("the floor ", a, " of tens"), reach.Of(web(), 29, 0, a), l...)
	}
	wantView(t, "floors far ahead", reach.Of(web(), 29, greatest, greatest), l...)
	wantView(t, "more floors than tiers", reach.Of(web(), 29, 3, 10, 20, 30), l...)
}

func TestP1201TimesAreNotHeldAgainstNow(t *testing.T) {
	// A sample that is too old for the first tier stands where a coarser one has it; one that has not come stands in all.
	r := reach.Of(web(), 257)
	l := []api.Sample{at("a", 149, 1), at("a", 150, 2), at("a", 257, 3), at("a", 258, 4), at("a", 1<<40, 5), at("a", greatest, 6)}
	wantList(t, "Tier 0", view.Tier(r, 0, l...), rec("a", 150, 2), rec("a", 257, 3), rec("a", 258, 4), rec("a", 1<<40, 5), rec("a", greatest, 6))
	wantList(t, "Tier 1", view.Tier(r, 1, l...), rec("a", 140, 1), rec("a", 150, 2), rec("a", 250, 3, 4), rec("a", 1<<40/10*10, 5), rec("a", greatest/10*10, 6))
	wantList(t, "Count", view.Count(r, l...), 5, 6)
	// At the clock's end, and behind it.
	for _, now := range []int{1 << 40, greatest} {
		r = reach.Of(web(), now)
		back := (now - 100) / 10 * 10
		l = []api.Sample{at("a", back-1, 1), at("a", back, 2), at("a", now, 3), at("a", 0, 4)}
		wantList(t, fmt.Sprint("Tier 0 at ", now), view.Tier(r, 0, l...), rec("a", back, 2), rec("a", now, 3))
		wantList(t, fmt.Sprint("Tier 1 at ", now), view.Tier(r, 1, l...), rec("a", back-10, 1), rec("a", back, 2), rec("a", now/10*10, 3))
	}
}

func TestP1201TierIsThatOfTheModel(t *testing.T) {
	found := 0
	for seed := range 200 {
		rnd := row(seed)
		for _, p := range policies() {
			r := reach.Of(p, rnd.next(120), rnd.floors(p)...)
			l := rnd.samples(r.Now, 60)
			wantView(t, fmt.Sprint("seed ", seed, " of ", r), r, l...)
			found += len(view.Tier(r, 0, l...))
		}
	}
	want(t, "is enough of them found", found > 5000, true)
}

func TestP1201OrderOfSamplesDoesNotCount(t *testing.T) {
	for seed := range 40 {
		rnd := row(seed)
		r := reach.Of(small(), 20, rnd.floors(small())...)
		l := rnd.samples(r.Now, 30)
		all, counts := view.All(r, l...), view.Count(r, l...)
		for range 5 {
			for i := range l {
				k := rnd.next(i + 1)
				l[i], l[k] = l[k], l[i]
			}
			wantLists(t, fmt.Sprint("seed ", seed, ": All"), view.All(r, l...), all...)
			wantList(t, fmt.Sprint("seed ", seed, ": Count"), view.Count(r, l...), counts...)
		}
	}
}

func TestP1201OfNoTiers(t *testing.T) {
	for _, r := range []reach.Reach{{}, reach.Of(api.Policy{}, 9, 1, 2), reach.Of(named("p"), greatest), {Now: 5, Floors: []int{0}}} {
		wantView(t, fmt.Sprint("without tiers: ", r), r, at("a", 0, 1), at("a", 5, 1))
		want(t, "how many of All", len(view.All(r, at("a", 0, 1))), 0)
		want(t, "how many of Count", len(view.Count(r, at("a", 0, 1))), 0)
	}
}

func TestP1202Ask(t *testing.T) {
	l := []api.Sample{at("B", 20, 9), at("a", -1, 9), at("", 20, 9)}
	for i := range 41 {
		l = append(l, at("a", i, i), at("b", 40-i, 1), at("b", i, 3))
	}
	for _, r := range []reach.Reach{reach.Of(small(), 40), reach.Of(web(), 40), reach.Of(web(), 125), reach.Of(named("one", tier("a", 1, 9, 1)), 40), reach.Of(small(), 40, 39, 38, 36), reach.Of(web(), 40, 30, 20)} {
		for _, s := range []string{"a", "b", "c", "ab", longest, "B", ""} {
			for from := -1; from <= 45; from++ {
				for to := -1; to <= 45; to++ {
					wantAsk(t, fmt.Sprint("of ", r), r, s, from, to, l...)
				}
				wantAsk(t, fmt.Sprint("of ", r), r, s, from, greatest, l...)
			}
		}
	}
}

func TestP1202AskOfTheWrong(t *testing.T) {
	wrong := []struct {
		s        string
		from, to int
	}{
		{"", 0, 300}, {"A", 0, 300}, {"a ", 0, 300}, {longest + "x", 0, 300}, {"é", 0, 300}, {"a\n", 200, 201},
		{"a", -1, 300}, {"a", least, 300}, {"a", -1, -1}, {"a", least, greatest}, {"a", 201, 200}, {"a", 1, 0}, {"a", greatest, 0}, {"a", 0, -1}, {"a", 0, least}, {"a", greatest, greatest - 1}, {"", -1, -2},
	}
	for _, r := range []reach.Reach{reach.Of(web(), 257), {}} {
		for _, c := range wrong {
			l := []api.Sample{at("a", 200, 1), at(c.s, 200, 1), at(c.s, 0, 1)}
			a, e := view.Ask(r, c.s, c.from, c.to, l...)
			if e != api.ErrArg || a.Tier != 0 || a.Records != nil {
				t.Errorf("Ask(%q, %d, %d): %v, %d", c.s, c.from, c.to, a, e)
			}
		}
	}
}

func TestP1202AskFromThereToThere(t *testing.T) {
	r := reach.Of(web(), 257)
	l := []api.Sample{at("a", 200, 1), at("a", 258, 2), at(longest, 140, 3)}
	for _, from := range []int{0, 139, 140, 150, 200, 257, 258, 1 << 40, greatest} {
		for _, s := range []string{"a", longest, "z"} {
			wantAsk(t, "none", r, s, from, from, l...)
			wantAsk(t, "from there on", r, s, from, greatest, l...)
			wantAsk(t, "no samples", r, s, from, greatest)
		}
	}
	// The last tick that there is stands below no time.
	a, e := view.Ask(reach.Of(web(), greatest), "a", greatest-1, greatest, at("a", greatest-1, 1), at("a", greatest, 2))
	want(t, "at the end: the error", e, api.OK)
	wantList(t, "at the end", a.Records, rec("a", greatest-1, 1))
}

func TestP1202AskOfTheTierThatCovers(t *testing.T) {
	r := reach.Of(web(), 257)
	var l []api.Sample
	for i := range 258 {
		l = append(l, at("a", i, i), at("b", i, i))
	}
	for _, c := range []struct{ from, tier, first, n int }{{0, 1, 0, 26}, {1, 1, 10, 25}, {149, 1, 150, 11}, {150, 0, 150, 108}, {151, 0, 151, 107}, {257, 0, 257, 1}, {258, 0, 0, 0}} {
		a, e := view.Ask(r, "a", c.from, 9999, l...)
		want(t, fmt.Sprint("Ask from ", c.from, ": the error"), e, api.OK)
		want(t, fmt.Sprint("Ask from ", c.from, ": the tier"), a.Tier, c.tier)
		want(t, fmt.Sprint("Ask from ", c.from, ": how many"), len(a.Records), c.n)
		if c.n > 0 && len(a.Records) > 0 {
			want(t, fmt.Sprint("Ask from ", c.from, ": the first one"), a.Records[0].Start, c.first)
		}
	}
	// A bucket that begins ahead of from is not told, though it has ticks behind it; one that begins below to is, though it has ticks above.
	a, _ := view.Ask(r, "a", 41, 61, l...)
	wantList(t, "inside of buckets", a.Records, rec("a", 50, 50, 51, 52, 53, 54, 55, 56, 57, 58, 59), rec("a", 60, 60, 61, 62, 63, 64, 65, 66, 67, 68, 69))
	// Where no tier reaches back that far it is the last one.
	r = reach.Of(web(), 50, 30, 20)
	for from := range 36 {
		a, _ := view.Ask(r, "a", from, 40, at("a", 35, 1))
		want(t, fmt.Sprint("above floors, from ", from), a.Tier, map[bool]int{true: 0, false: 1}[from >= 30])
		want(t, fmt.Sprint("above floors, from ", from, ": how many"), len(a.Records), 1)
	}
}

func TestP1202AskOfNoTiers(t *testing.T) {
	for _, r := range []reach.Reach{{}, reach.Of(named("p"), 9, 3)} {
		a, e := view.Ask(r, "a", 0, 10, at("a", 5, 1))
		want(t, "the error", e, api.OK)
		want(t, "the tier", a.Tier, -1)
		wantList(t, "the records", a.Records)
	}
}

// store is tiers, and all samples that they ever took.
type store struct {
	*tiers.Tiers
	taken []api.Sample
}

// put puts samples, and keeps them if they are taken.
func (s *store) put(l ...api.Sample) {
	if s.Put(l...) == api.OK {
		s.taken = append(s.taken, l...)
	}
}

// source is the tier that one of that Every is to be made of: of those that divide it the one that reaches back the furthest, of several the last one.
func (s *store) source(every int) int {
	best := 0
	for i, x := range s.Policy.Tiers {
		if every%x.Every == 0 && s.From(i) <= s.From(best) {
			best = i
		}
	}
	return best
}

// change makes tiers of another policy of what is there, with the bases as floors.
func (s *store) change(to api.Policy) {
	var bases []int
	for _, x := range to.Tiers {
		bases = append(bases, grid.Ceil(s.From(s.source(x.Every)), x.Every))
	}
	next, e := tiers.New(to, s.Now, bases...)
	if e != api.OK {
		panic(fmt.Sprint("New of ", to, bases, ": ", e))
	}
	for i, x := range to.Tiers {
		next.Load(i, s.Table(s.source(x.Every)).Roll(x.Every, next.From(i)).All()...)
	}
	s.Tiers = next
}

// wantStore holds all that a store has against the view of all that it ever took.
func wantStore(t *testing.T, what string, s *store) {
	t.Helper()
	var all [][]api.Record
	var counts []int
	for i := range s.Policy.Tiers {
		all, counts = append(all, s.Records(i)), append(counts, 0)
		for _, x := range s.Records(i) {
			counts[i] += x.Agg.Count
		}
	}
	wantLists(t, what+": All", view.All(s.Reach, s.taken...), all...)
	wantList(t, what+": Count", view.Count(s.Reach, s.taken...), counts...)
	for _, n := range []string{"a", "ab", "c", "z", "A"} {
		for _, since := range []int{-1, 0, s.Now - 40, s.Now - 13, s.Now - 3, s.Now, s.Now + 1} {
			for _, to := range []int{s.Now - 20, s.Now, s.Now + 1, greatest} {
				a, e := view.Ask(s.Reach, n, since, to, s.taken...)
				b, wanted := s.Ask(n, since, to)
				if e != wanted || a.Tier != b.Tier || !slices.Equal(a.Records, b.Records) {
					t.Errorf("%s: Ask(%q, %d, %d): %v, %d, not %v, %d", what, n, since, to, a, e, b, wanted)
				}
			}
		}
	}
}

// started is an empty store of a policy, at some time, with floors.
func (r *row) started(p api.Policy) *store {
	x, e := tiers.New(p, r.next(30), r.floors(p)...)
	if e != api.OK {
		panic(fmt.Sprint("New of ", p, ": ", e))
	}
	return &store{Tiers: x}
}

// step puts some samples, or lets time go on.
func (r *row) step(s *store) {
	if r.next(4) == 0 {
		s.Tick(r.next(5) * r.next(4))
		return
	}
	l := r.samples(s.Now, 3)
	for i := range l {
		// Most of them are to be taken.
		l[i].Time = max(l[i].Time, s.Now-r.next(6))
	}
	s.put(l...)
}

func TestP1203UnderOnePolicy(t *testing.T) {
	taken := 0
	for seed := range 70 {
		rnd := row(seed)
		s := rnd.started(policies()[seed%len(policies())])
		for i := range 40 {
			rnd.step(s)
			wantStore(t, fmt.Sprint("seed ", seed, ", step ", i), s)
		}
		taken += len(s.taken)
	}
	want(t, "are enough of them taken", taken > 1000, true)
}

func TestP1203BehindChangesOfPolicy(t *testing.T) {
	taken, held := 0, 0
	for seed := range 140 {
		rnd := row(seed)
		s := rnd.started(policies()[seed%len(policies())])
		for i := range 60 {
			what := fmt.Sprint("seed ", seed, ", step ", i)
			if rnd.next(12) == 0 {
				s.change(policies()[rnd.next(len(policies()))])
				wantStore(t, what+", a change", s)
				for k, floor := range s.Floors {
					if floor > 0 && s.From(k) == floor {
						held++
					}
				}
			}
			rnd.step(s)
			wantStore(t, what, s)
		}
		taken += len(s.taken)
	}
	want(t, "are enough of them taken", taken > 3000, true)
	want(t, "do bases count often enough", held > 200, true)
}

// row is a row of numbers that look like chance, but are the same each time.
type row uint64

// next tells the next number, below n.
func (r *row) next(n int) int {
	*r = *r*6364136223846793005 + 1442695040888963407
	return int(*r>>33) % n
}

// samples tells up to n of them: most of a time that has come, some of wrong names and times.
func (r *row) samples(now, n int) []api.Sample {
	var l []api.Sample
	for range 1 + r.next(n) {
		s := at([]string{"a", "b", "c", "ab", longest}[r.next(5)], r.next(now+1), r.next(9)-4)
		switch r.next(25) {
		case 0:
			s.Time = now + 1 + r.next(9)
		case 1:
			s.Time = -1 - r.next(30)
		case 2:
			s.Name = []string{"", "A", longest + "x"}[r.next(3)]
		}
		l = append(l, s)
	}
	return l
}

// floors tells floors that some of the first tiers of a policy may have.
func (r *row) floors(p api.Policy) []int {
	var l []int
	for _, x := range p.Tiers[:r.next(len(p.Tiers)+1)] {
		l = append(l, x.Every*r.next(4))
	}
	return l
}

// wantApart wants the names of records to share no bytes with those of others.
func wantApart(t *testing.T, what string, l []api.Record, others ...string) {
	t.Helper()
	want(t, what+": are there any", len(l) > 0 && len(others) > 0, true)
	for _, r := range l {
		for _, s := range others {
			from, to := uintptr(unsafe.Pointer(unsafe.StringData(r.Name))), uintptr(unsafe.Pointer(unsafe.StringData(s)))
			if from < to+uintptr(len(s)) && to < from+uintptr(len(r.Name)) {
				t.Errorf("%s: %q and %q share their bytes", what, r.Name, s)
			}
		}
	}
}

// texts are the names of records.
func texts(l []api.Record) []string {
	var all []string
	for _, r := range l {
		all = append(all, r.Name)
	}
	return all
}

func TestTextsAreKeptApart(t *testing.T) {
	text := strings.Clone("cpu disk")
	r := reach.Of(web(), 25)
	l := []api.Sample{at(text[:3], 21, 1), at(text[4:], 22, 1), at(text[:3], 23, 1)}
	ask := func(s string) []api.Record {
		a, _ := view.Ask(r, s, 20, 30, l...)
		return a.Records
	}
	all := view.All(r, l...)
	answers := [][]api.Record{all[0], all[1], view.Tier(r, 0, l...), view.Tier(r, 1, l...), ask(text[:3]), ask(text[:3])}
	for i, x := range answers {
		wantApart(t, fmt.Sprint("answer ", i, " and what was handed in"), x, text)
		for k, y := range answers[:i] {
			wantApart(t, fmt.Sprint("answers ", i, " and ", k), x, texts(y)...)
		}
	}
}

func TestAnswersOwnTheirMemory(t *testing.T) {
	r := reach.Of(web(), 25, 5, 10)
	l := []api.Sample{at("a", 21, 4), at("b", 25, 6), at("a", 22, 1), at("a", 21, 3)}
	spoil := func(l []api.Record) {
		for i := range l {
			l[i] = rec("z", 99, 9)
		}
		_ = append(l, rec("z", 0, 1))
	}
	for range 3 {
		for _, x := range view.All(r, l...) {
			spoil(x)
		}
		spoil(view.Tier(r, 0, l...))
		a, _ := view.Ask(r, "a", 20, 30, l...)
		spoil(a.Records)
		view.Count(r, l...)[0] = 99
		wantView(t, "what was told changes", r, l...)
		wantAsk(t, "what was told changes", r, "a", 20, 30, l...)
	}
	wantList(t, "the floors that were handed in", r.Floors, 5, 10)
	wantList(t, "the tiers that were handed in", r.Policy.Tiers, web().Tiers...)

	a, _ := view.Ask(r, "a", 20, 30, l...)
	all, counts := view.All(r, l...), view.Count(r, l...)
	for i := range l {
		l[i] = at("z", 1, 1)
	}
	r.Policy.Tiers[0], r.Floors[0] = tier("z", 5, 5, 5), 24
	wantList(t, "an answer, when what was handed in changes", a.Records, rec("a", 21, 4, 3), rec("a", 22, 1))
	wantLists(t, "All, when what was handed in changes", all, []api.Record{rec("a", 21, 4, 3), rec("a", 22, 1), rec("b", 25, 6)}, []api.Record{rec("a", 20, 4, 3, 1), rec("b", 20, 6)})
	wantList(t, "Count, when what was handed in changes", counts, 4, 4)
}

func TestReachesThatMayNotBe(t *testing.T) {
	// A bucket of less than 1 tick is that of the time itself.
	for _, every := range []int{0, -1, -10, least} {
		r := reach.Of(named("p", tier("a", every, 5, 1)), 9)
		wantList(t, fmt.Sprint("buckets of ", every), view.Tier(r, 0, at("a", 7, 1), at("a", 6, 2), at("a", 7, 3)), rec("a", 6, 2), rec("a", 7, 1, 3))
	}
	// The greatest bucket that there is has all.
	r := reach.Of(named("p", tier("a", 1, 5, 1), tier("b", greatest, greatest, 1)), 9)
	wantList(t, "the greatest bucket", view.Tier(r, 1, at("a", 0, 1), at("a", greatest-1, 2), at("a", greatest, 3)), rec("a", 0, 1, 2), rec("a", greatest, 3))

	l := []api.Sample{at("a", 0, 1), at("a", greatest, greatest), at("a", least, least), at("", -1, 0), {}}
	for _, p := range []api.Policy{{}, web(), named("", make([]api.Tier, 9)...), named("p", tier("", least, least, least), tier("", greatest, greatest, greatest))} {
		for _, now := range []int{least, -1, 0, 25, greatest} {
			for _, floors := range [][]int{nil, {least, greatest}, {-1, -1, -1}} {
				r := reach.Reach{Now: now, Policy: p, Floors: floors}
				all := view.All(r, l...)
				want(t, fmt.Sprint("how many of All of ", r), len(all), len(p.Tiers))
				for i, n := range view.Count(r, l...) {
					has := 0
					for _, x := range all[i] {
						has += x.Agg.Count
					}
					want(t, fmt.Sprint("Count of ", r), n, has)
				}
				for _, from := range []int{0, 25, greatest} {
					a, e := view.Ask(r, "a", from, greatest, l...)
					want(t, fmt.Sprint("Ask of ", r), e, api.OK)
					want(t, fmt.Sprint("Ask of ", r, ": the tier"), a.Tier, r.Cover(from))
				}
			}
		}
	}
}

func TestManySamplesAtOnce(t *testing.T) {
	r := reach.Of(web(), 99999, 0, 0)
	var l []api.Sample
	for i := range 100000 {
		l = append(l, at(fmt.Sprint("s", i%50), i, i))
	}
	wantList(t, "Count", view.Count(r, l...), 110, 1010)
	sum := 0
	for _, x := range view.Tier(r, 1, l...) {
		sum += x.Agg.Count
	}
	want(t, "all that stand in a tier", sum, 1010)
	a, _ := view.Ask(r, "s49", 99000, 100000, l...)
	want(t, "how many are told", len(a.Records), 20)
}

func TestReadme(t *testing.T) {
	r := reach.Of(web(), 130)
	l := []api.Sample{at("cpu", 21, 4), at("cpu", 125, 6), at("cpu", 25, 2)}
	wantList(t, "Tier", view.Tier(r, 1, l...), rec("cpu", 20, 4, 2), rec("cpu", 120, 6))
	wantLists(t, "All", view.All(r, l...), []api.Record{rec("cpu", 125, 6)}, []api.Record{rec("cpu", 20, 4, 2), rec("cpu", 120, 6)})
	wantList(t, "Count", view.Count(r, l...), 1, 3)
	a, e := view.Ask(r, "cpu", 20, 30, l...)
	want(t, "Ask: the error", e, api.OK)
	want(t, "Ask: the tier", a.Tier, 1)
	wantList(t, "Ask", a.Records, rec("cpu", 20, 4, 2))
}
