package shadow_test

import (
	"fmt"
	"math"
	"slices"
	"strings"
	"testing"
	"unsafe"

	"sediment/agg"
	"sediment/api"
	"sediment/name"
	"sediment/plan"
	"sediment/shadow"
	"sediment/tiers"
	"sediment/view"
)

const (
	least    = math.MinInt
	greatest = math.MaxInt
	longest  = "fifteen.bytes-_" // a name of as many bytes as it may have
)

// want holds an answer against what is wanted.
func want[T comparable](t *testing.T, what string, got, wanted T) {
	t.Helper()
	if got != wanted {
		t.Errorf("%s: %v, not %v", what, got, wanted)
	}
}

// wantList holds a list against what is wanted; nil and empty ones are one.
func wantList[T comparable](t *testing.T, what string, got []T, wanted ...T) {
	t.Helper()
	if !slices.Equal(got, wanted) {
		t.Errorf("%s: %v, not %v", what, got, wanted)
	}
}

// wantPlan holds a plan against what is wanted.
func wantPlan(t *testing.T, what string, got, wanted plan.Plan) {
	t.Helper()
	want(t, what+": the policy's name", got.To.Name, wanted.To.Name)
	wantList(t, what+": the policy's tiers", got.To.Tiers, wanted.To.Tiers...)
	wantList(t, what+": Sources", got.Sources, wanted.Sources...)
}

// named is a policy of that name and those tiers.
func named(s string, l ...api.Tier) api.Policy { return api.Policy{Name: s, Tiers: l} }

// tier is a tier.
func tier(s string, every, keep, shards int) api.Tier {
	return api.Tier{Name: s, Every: every, Keep: keep, Shards: shards}
}

// web is the policy of chapter 8.
func web() api.Policy { return named("web", tier("raw", 1, 100, 2), tier("tens", 10, 1000, 1)) }

// fifties is the policy that web becomes in chapter 13.
func fifties() api.Policy {
	return named("fifties", tier("raw", 1, 50, 1), tier("fifties", 50, 5000, 3))
}

// small is a policy whose tiers soon give up what they have.
func small() api.Policy {
	return named("small", tier("a", 1, 3, 1), tier("b", 2, 5, 3), tier("c", 6, 12, 2))
}

// policies are policies of one to five tiers.
func policies() []api.Policy {
	return []api.Policy{
		web(), fifties(), small(), named("one", tier("a", 1, 1, 1)), named("p", tier("a", 1, 7, 8)), named("q", tier("a", 1, 4, 2), tier("b", 3, 4, 1)),
		named("r", tier("a", 1, 2, 1), tier("b", 2, 2, 1), tier("c", 4, 9, 2), tier("d", 8, 16, 3), tier("e", 24, 40, 4)),
		named("s", tier("a", 1, 30, 1), tier("b", 5, 45, 2), tier("c", 15, 90, 1)),
		named("u", tier("a", 1, 9, 3), tier("b", 7, 20, 1), tier("c", 14, 60, 8)),
	}
}

// wrong are policies that may not be.
func wrong() []api.Policy {
	five := make([]api.Tier, 0, 6)
	for i := range 6 {
		five = append(five, tier(string([]byte{byte('a' + i)}), 1<<i, 100, 1))
	}
	return []api.Policy{
		{}, named("p"), named("", web().Tiers...), named("W", web().Tiers...), named("p", five...),
		named("p", tier("a", 2, 100, 1)), named("p", tier("a", 0, 100, 1)), named("p", tier("", 1, 100, 1)),
		named("p", tier("a", 1, 0, 1)), named("p", tier("a", 1, 1000001, 1)), named("p", tier("a", 1, 5, 0)), named("p", tier("a", 1, 5, 9)),
		named("p", tier("a", 1, 10, 1), tier("a", 2, 20, 1)), named("p", tier("a", 1, 10, 1), tier("b", 1, 20, 1)),
		named("p", tier("a", 1, 10, 1), tier("b", 2, 20, 1), tier("c", 3, 30, 1)), named("p", tier("a", 1, 10, 1), tier("b", 2, 9, 1)),
	}
}

// at is a sample.
func at(s string, time, v int) api.Sample { return api.Sample{Name: s, Time: time, Value: v} }

// rec is the record of these values.
func rec(s string, start int, v ...int) api.Record {
	return api.Record{Name: s, Start: start, Agg: agg.Of(v...)}
}

// opened are empty tiers that must be there.
func opened(p api.Policy, now int, floors ...int) *tiers.Tiers {
	x, e := tiers.New(p, now, floors...)
	if e != api.OK {
		panic(fmt.Sprint("New of ", p, ": ", e))
	}
	return x
}

// put puts samples that must be taken.
func put(x *tiers.Tiers, l ...api.Sample) {
	if e := x.Put(l...); e != api.OK {
		panic(fmt.Sprint("Put of ", l, ": ", e))
	}
}

// stocked is a store of the policy of chapter 8 at 257, which reaches back to 150 and to 0.
func stocked() *tiers.Tiers {
	x := opened(web(), 257)
	put(x, at("a", 150, 1), at("a", 153, 2), at("b", 250, 4), at("a", 160, 5), at("a", 257, 7), at("b", 203, 8), at("b", 202, -1))
	x.Load(1, rec("a", 0, 11), rec("a", 140, 3, 4), rec("c", 50, 6), rec("c", 90, 2))
	return x
}

// begun is a change that must begin.
func begun(x *tiers.Tiers, to api.Policy) *shadow.Shadow {
	s, e := shadow.Begin(x, to)
	if e != api.OK {
		panic(fmt.Sprint("Begin of ", to, ": ", e))
	}
	return s
}

// resumed is a change that must go on.
func resumed(p plan.Plan, bound, done int) *shadow.Shadow {
	s, e := shadow.Resume(p, bound, done)
	if e != api.OK {
		panic(fmt.Sprint("Resume of ", p, ", ", bound, ", ", done, ": ", e))
	}
	return s
}

// built is what a plan builds, which must fit.
func built(p plan.Plan, x *tiers.Tiers) *tiers.Tiers {
	b, e := p.Build(x)
	if e != api.OK {
		panic(fmt.Sprint("Build: ", e))
	}
	return b
}

// steps does that many steps, which must be done; behind a Cut it tells the new tiers.
func steps(s *shadow.Shadow, x *tiers.Tiers, n int) *tiers.Tiers {
	var cut *tiers.Tiers
	for range n {
		_, y, e := s.Step(x)
		if e != api.OK {
			panic(fmt.Sprint("Step behind ", s.Done(), ": ", e))
		}
		cut = y
	}
	return cut
}

// take puts samples that must be taken, and notes them.
func take(s *shadow.Shadow, x *tiers.Tiers, l ...api.Sample) {
	put(x, l...)
	s.Note(x, l...)
}

// all tells the records of all tiers of a change, one list a tier.
func all(s *shadow.Shadow) [][]api.Record {
	var l [][]api.Record
	for i := range s.To.Tiers {
		l = append(l, s.Records(i))
	}
	return l
}

// wantAll holds the records of all tiers of a change against what is wanted.
func wantAll(t *testing.T, what string, s *shadow.Shadow, wanted ...[]api.Record) {
	t.Helper()
	want(t, what+": how many tiers", len(s.To.Tiers), len(wanted))
	for i, l := range wanted {
		wantList(t, fmt.Sprint(what, ": tier ", i), s.Records(i), l...)
	}
}

// row is a row of numbers that look like chance, but are the same each time.
type row uint64

// next tells the next number, below n.
func (r *row) next(n int) int {
	*r = *r*6364136223846793005 + 1442695040888963407
	return int(*r>>33) % n
}

// floors tells floors that some of the first tiers of a policy may have.
func (r *row) floors(p api.Policy) []int {
	var l []int
	for _, x := range p.Tiers[:r.next(len(p.Tiers)+1)] {
		l = append(l, x.Every*r.next(9))
	}
	return l
}

// policy tells one of the policies.
func (r *row) policy() api.Policy { return policies()[r.next(len(policies()))] }

// names are those of the series that row's samples have.
func names() []string { return []string{"a", "b", "c", "ab", "z0", longest} }

// samples tells up to n of them, of times that have come.
func (r *row) samples(now, n int) []api.Sample {
	var l []api.Sample
	for range 1 + r.next(n) {
		l = append(l, at(names()[r.next(6)], max(now-r.next(8), 0), r.next(9)-4))
	}
	return l
}

func TestP1401Begin(t *testing.T) {
	x := stocked()
	s, e := shadow.Begin(x, fifties())
	want(t, "the error", e, api.OK)
	wantPlan(t, "the plan", s.Plan, plan.Plan{To: fifties(), Sources: []int{0, 1}})
	want(t, "Steps", s.Steps(), 6)
	want(t, "Done", s.Done(), 0)
	next, is := s.Next()
	want(t, "Next", next, plan.Step{Kind: plan.Fill})
	want(t, "is there a next one", is, true)
	want(t, "Build's Need", built(s.Plan, x).Need(), 5)
	want(t, "Bound", s.Bound(), 14)
	wantAll(t, "behind Begin", s, nil, nil)
	want(t, "Need", s.Need(), 0)
	want(t, "what it was begun of", x.Same(stocked()), true)
}

func TestP1401BeginOfAllPolicies(t *testing.T) {
	for _, from := range policies() {
		for _, to := range policies() {
			for seed := range 4 {
				r := row(seed)
				x := opened(from, 50+r.next(100), r.floors(from)...)
				for range 20 {
					x.Put(r.samples(x.Now, 3)...)
				}
				what := fmt.Sprint("from ", from.Name, " to ", to.Name, ", ", seed)
				p, _ := plan.Make(x.Policy, x.Reach, to)
				s := begun(x, to)
				wantPlan(t, what, s.Plan, p)
				want(t, what+": Bound", s.Bound(), p.Bound(built(p, x).Need()))
				want(t, what+": Done", s.Done(), 0)
				want(t, what+": Need", s.Need(), 0)
				want(t, what+": Fits", s.Fits(x), true)
			}
		}
	}
}

func TestP1401BeginThatMayNotBe(t *testing.T) {
	refused := func(what string, x *tiers.Tiers, to api.Policy, wanted api.Errno) {
		t.Helper()
		s, e := shadow.Begin(x, to)
		want(t, what+": the error", e, wanted)
		want(t, what+": is there something", s != nil, false)
	}
	refused("nil tiers", nil, fifties(), api.ErrArg)
	for i, to := range wrong() {
		refused(fmt.Sprint("to the wrong one ", i), stocked(), to, api.ErrRule)
		refused(fmt.Sprint("nil tiers, to the wrong one ", i), nil, to, api.ErrArg)
		x := stocked()
		x.Policy = to
		refused(fmt.Sprint("from the wrong one ", i), x, fifties(), api.ErrRule)
	}
	refused("zero tiers", &tiers.Tiers{}, fifties(), api.ErrRule)
	refused("tiers that have their reach alone", &tiers.Tiers{Reach: stocked().Reach}, fifties(), api.ErrArg)
}

func TestP1401Resume(t *testing.T) {
	p := begun(stocked(), fifties()).Plan
	for done := range 6 {
		for _, bound := range []int{0, 1, 16, 4096, greatest} {
			what := fmt.Sprint("Resume of ", bound, ", ", done)
			s, e := shadow.Resume(p, bound, done)
			want(t, what+": the error", e, api.OK)
			wantPlan(t, what, s.Plan, p)
			want(t, what+": Bound", s.Bound(), bound)
			want(t, what+": Done", s.Done(), done)
			next, is := s.Next()
			wanted, _ := p.At(done)
			want(t, what+": Next", next, wanted)
			want(t, what+": is there a next one", is, true)
			wantAll(t, what, s, nil, nil)
			want(t, what+": Need", s.Need(), 0)
		}
	}
}

func TestP1401ResumeThatMayNotBe(t *testing.T) {
	refused := func(what string, p plan.Plan, bound, done int) {
		t.Helper()
		s, e := shadow.Resume(p, bound, done)
		want(t, what+": the error", e, api.ErrArg)
		want(t, what+": is there something", s != nil, false)
	}
	for _, to := range policies() {
		p := begun(stocked(), to).Plan
		for _, done := range []int{least, -7, -1, p.Steps(), p.Steps() + 1, greatest} {
			refused(fmt.Sprint("to ", to.Name, ", ", done, " done"), p, 9, done)
		}
		for _, bound := range []int{least, -100, -1} {
			for done := -1; done <= p.Steps(); done++ {
				refused(fmt.Sprint("to ", to.Name, ", a bound of ", bound, ", ", done, " done"), p, bound, done)
			}
		}
		_, e := shadow.Resume(p, 0, p.Steps()-1)
		want(t, "the last that may be", e, api.OK)
	}
	for _, done := range []int{least, -1, 0, 1, greatest} {
		refused(fmt.Sprint("a zero plan, ", done, " done"), plan.Plan{}, 9, done)
		refused(fmt.Sprint("a plan of empty lists, ", done, " done"), plan.Plan{To: named("", []api.Tier{}...), Sources: []int{}}, 9, done)
	}
}

func TestP1401ResumeOfPlansThatFitNothing(t *testing.T) {
	// Whether a plan fits is asked by each step, not by Resume.
	for i, to := range wrong()[1:] {
		p := plan.Plan{To: to, Sources: make([]int, len(to.Tiers))}
		what := fmt.Sprint("the wrong one ", i+1)
		s, e := shadow.Resume(p, 9, 0)
		want(t, what+": the error", e, api.OK)
		wantPlan(t, what, s.Plan, p)
		step, y, e := s.Step(stocked())
		want(t, what+": Step", step, plan.Step{})
		want(t, what+": are there new tiers", y != nil, false)
		want(t, what+": Step's error", e, api.ErrArg)
		s.Note(stocked(), at("a", 257, 1))
		want(t, what+": Need", s.Need(), 0)
	}
	// As many shards, and ticks, as an int holds, and fewer than none.
	for _, n := range []int{least, -1, 0, greatest} {
		p := plan.Plan{To: named("p", tier("a", n, n, n), tier("b", 10, n, n)), Sources: []int{0, 1}}
		what := fmt.Sprint("tiers of ", n)
		s := resumed(p, 9, 0)
		want(t, what+": Load", s.Load(1, rec("a", 10, 1), rec("b", 10, 1), rec("c", 11, 1)), 2)
		want(t, what+": Records", len(s.Records(1)), 2)
		_, _, e := s.Step(stocked())
		want(t, what+": Step's error", e, api.ErrArg)
		want(t, what+": Trim", s.Trim(stocked()), 0)
		want(t, what+": Copy", len(s.Copy().Records(1)), 2)
	}
	p := plan.Plan{To: named("p", tier("a", 1, 5, greatest)), Sources: []int{0}}
	want(t, "Need of the most shards", func() int { s := resumed(p, 9, 0); s.Load(0, rec("a", 1, 1), rec("b", 1, 1)); return s.Need() }(), 2)
}

func TestP1402StepsInOrder(t *testing.T) {
	for _, to := range policies() {
		x := stocked()
		s := begun(x, to)
		n := s.Steps()
		for k := range n {
			what := fmt.Sprint("to ", to.Name, ": step ", k)
			wanted, _ := s.At(k)
			next, is := s.Next()
			want(t, what+": Next", next, wanted)
			want(t, what+": is there a next one", is, true)
			want(t, what+": Done", s.Done(), k)
			step, y, e := s.Step(x)
			want(t, what, step, wanted)
			want(t, what+": the error", e, api.OK)
			want(t, what+": are there new tiers", y != nil, k == n-1)
			want(t, what+": Done behind it", s.Done(), k+1)
			want(t, what+": what goes on meanwhile", x.Same(stocked()), true)
		}
		for range 3 {
			next, is := s.Next()
			want(t, "Next behind the last one", next, plan.Step{})
			want(t, "is there one behind the last one", is, false)
			step, y, e := s.Step(x)
			want(t, "a step behind the last one", step, plan.Step{})
			want(t, "are there new tiers behind the last one", y != nil, false)
			want(t, "a step behind the last one: the error", e, api.ErrNone)
			want(t, "Done behind the last one", s.Done(), n)
		}
	}
}

func TestP1402StepsThatMayNotBe(t *testing.T) {
	one := opened(named("one", tier("a", 1, 9, 1)), 257)
	late := stocked()
	late.Now = api.MaxTime + 1
	for done := range 7 {
		x := stocked()
		s := begun(x, fifties())
		steps(s, x, done)
		was := all(s)
		for what, y := range map[string]*tiers.Tiers{"nil": nil, "zero": {}, "reach alone": {Reach: x.Reach}, "one": one, "late": late} {
			what := fmt.Sprint(what, " tiers behind ", done)
			step, cut, e := s.Step(y)
			want(t, what+": the step", step, plan.Step{})
			want(t, what+": are there new tiers", cut != nil, false)
			want(t, what+": the error", e, api.ErrArg)
			want(t, what+": Done", s.Done(), done)
			wantAll(t, what, s, was...)
		}
	}
}

func TestP1402Fill(t *testing.T) {
	// c, a and b stand in the shards 2, 1 and 1 of three.
	x := stocked()
	s := begun(x, fifties())
	raw := []api.Record{rec("a", 257, 7), rec("b", 202, -1), rec("b", 203, 8), rec("b", 250, 4)}
	a := []api.Record{rec("a", 0, 11), rec("a", 100, 3, 4), rec("a", 150, 1, 2, 5), rec("a", 250, 7), rec("b", 200, 8, -1), rec("b", 250, 4)}
	c := []api.Record{rec("c", 50, 6, 2)}
	steps(s, x, 1)
	wantAll(t, "behind 1", s, raw, nil)
	want(t, "Need behind 1", s.Need(), 2)
	steps(s, x, 1)
	wantAll(t, "behind 2", s, raw, nil)
	steps(s, x, 1)
	wantAll(t, "behind 3", s, raw, a)
	want(t, "Need behind 3", s.Need(), 4)
	steps(s, x, 1)
	wantAll(t, "behind 4", s, raw, append(a, c...))
	want(t, "Need behind 4", s.Need(), 5)
}

func TestP1402FillClearsItsShard(t *testing.T) {
	x := stocked()
	p := begun(x, fifties()).Plan
	// What is loaded ahead of the fill goes, where it stands in the shard; all else stays.
	junk := []api.Record{rec("a", 0, 99), rec("a", 5000, 1), rec("ab", 0, 99), rec("ab", 50, 1), rec("b", 250, 77), rec("c", 50, 99), rec("c", 300, 1)}
	of := func(shard int, l []api.Record) []api.Record {
		var kept []api.Record
		for _, r := range l {
			if name.Shard(r.Name, 3) == shard {
				kept = append(kept, r)
			}
		}
		return kept
	}
	b := built(p, x).Records(1)
	for shard := range 3 {
		s := resumed(p, 16, 1+shard)
		want(t, "Load", s.Load(1, junk...), len(junk))
		want(t, "Load of raw", s.Load(0, junk...), len(junk))
		steps(s, x, 1)
		var wanted []api.Record
		for k := range 3 {
			if k == shard {
				wanted = append(wanted, of(k, b)...)
			} else {
				wanted = append(wanted, of(k, junk)...)
			}
		}
		slices.SortFunc(wanted, func(r, q api.Record) int {
			return strings.Compare(fmt.Sprintf("%-16s%09d", r.Name, r.Start), fmt.Sprintf("%-16s%09d", q.Name, q.Start))
		})
		wantList(t, fmt.Sprint("behind the fill of ", shard), s.Records(1), wanted...)
		wantList(t, fmt.Sprint("raw behind the fill of ", shard), s.Records(0), junk...)
	}
}

// ready is a change from stocked to fifties of which all fills are done, and the time of it goes on.
func ready(tick int) (*shadow.Shadow, *tiers.Tiers) {
	x := stocked()
	s := begun(x, fifties())
	steps(s, x, 4)
	x.Tick(tick)
	return s, x
}

func TestP1402Check(t *testing.T) {
	for _, tick := range []int{0, 10, 60, 800, 5000} {
		s, x := ready(tick)
		was := all(s)
		step, y, e := s.Step(x)
		want(t, fmt.Sprint("Check behind ", tick), step, plan.Step{Kind: plan.Check})
		want(t, fmt.Sprint("Check behind ", tick, ": are there new tiers"), y != nil, false)
		want(t, fmt.Sprint("Check behind ", tick, ": the error"), e, api.OK)
		wantAll(t, fmt.Sprint("Check behind ", tick), s, was...)
	}
}

func TestP1402CheckFindsDifferences(t *testing.T) {
	// At 1217 raw reaches back to 1150, fifties to 250 (their base, since the tens below 210 are gone).
	for _, c := range []struct {
		what  string
		tier  int
		r     api.Record
		found bool
	}{
		{"one bucket of raw more", 0, rec("a", 1151, 1), true},
		{"the first bucket of raw more", 0, rec("z", 1150, 1), true},
		{"a bucket that raw does not reach back to", 0, rec("a", 1149, 1), false},
		{"one bucket of fifties more", 1, rec("a", 1200, 1), true},
		{"a bucket of fifties that raw does not reach back to", 1, rec("a", 1100, 1), true},
		{"one value more", 1, rec("a", 250, 7), true},
		{"one value of 0 more", 1, rec("b", 250, 0), true},
		{"one more series in the first bucket of fifties", 1, rec("d", 250, 0), true},
		{"a bucket that fifties do not reach back to", 1, rec("d", 200, 1), false},
		{"one value more of a bucket that fifties do not reach back to", 1, rec("b", 200, 1), false},
		{"a bucket that has not come yet", 1, rec("a", 5000, 1), true},
	} {
		s, x := ready(960)
		wantList(t, "the Froms", built(s.Plan, x).All(), 1150, 250)
		want(t, c.what+": Load", s.Load(c.tier, c.r), 1)
		was := all(s)
		wanted, done, told := plan.Step{Kind: plan.Check}, 5, api.OK
		if c.found {
			wanted, done, told = plan.Step{}, 4, api.ErrSum
		}
		for range 2 {
			step, y, e := s.Step(x)
			want(t, c.what, step, wanted)
			want(t, c.what+": are there new tiers", y != nil, false)
			want(t, c.what+": the error", e, told)
			want(t, c.what+": Done", s.Done(), done)
			wantAll(t, c.what, s, was...)
			if !c.found {
				break
			}
		}
	}
}

func TestP1402CheckFindsWhatLacks(t *testing.T) {
	x := stocked()
	p := begun(x, fifties()).Plan
	b := built(p, x)
	for i := range 2 {
		for k := -1; k < len(b.Records(i)); k++ {
			s := resumed(p, 16, 4)
			for n := range 2 {
				l := b.Records(n)
				if n == i && k >= 0 {
					l = slices.Delete(l, k, k+1)
				}
				s.Load(n, l...)
			}
			_, _, e := s.Step(x)
			wanted := api.ErrSum
			if k < 0 {
				wanted = api.OK
			}
			want(t, fmt.Sprint("Check where ", k, " of tier ", i, " lacks"), e, wanted)
		}
	}
	// What comes and is not noted is found, in whichever tier it stands.
	s, x := ready(0)
	put(x, at("z0", 210, 1))
	_, _, e := s.Step(x)
	want(t, "Check where a sample was not noted", e, api.ErrSum)
	s.Note(x, at("z0", 210, 1))
	_, _, e = s.Step(x)
	want(t, "Check where it was noted", e, api.OK)
	s, x = ready(0)
	put(x, at("z0", 160, 1))
	_, _, e = s.Step(x)
	want(t, "Check where a sample of the coarser tier alone was not noted", e, api.ErrSum)
}

func TestP1402Cut(t *testing.T) {
	s, x := ready(10)
	take(s, x, at("a", 262, 3), at("c", 199, 2), at("a", 262, 5))
	steps(s, x, 1)
	b := built(s.Plan, x)
	step, y, e := s.Step(x)
	want(t, "the step", step, plan.Step{Kind: plan.Cut})
	want(t, "the error", e, api.OK)
	want(t, "are the new tiers what is built", y.Same(b), true)
	want(t, "Now", y.Now, 267)
	want(t, "the policy", y.Policy.Name, "fifties")
	wantList(t, "Floors", y.Floors, 160, 0)
	wantList(t, "the Froms", y.All(), 200, 0)
	wantList(t, "raw", y.Records(0), rec("a", 257, 7), rec("a", 262, 3, 5), rec("b", 202, -1), rec("b", 203, 8), rec("b", 250, 4))
	wantList(t, "fifties", y.Records(1), rec("a", 0, 11), rec("a", 100, 3, 4), rec("a", 150, 1, 2, 5), rec("a", 250, 7, 3, 5), rec("b", 200, 8, -1), rec("b", 250, 4), rec("c", 50, 6, 2), rec("c", 150, 2))
	want(t, "may something be put", y.Put(at("a", 267, 1)), api.OK)
	want(t, "may something be put that is too old", y.Put(at("a", 199, 1)), api.ErrOld)
}

func TestP1402CutHasTheShadowsRecords(t *testing.T) {
	// What comes behind Check is not looked at any more: the records are the shadow's own.
	s, x := ready(960)
	wantList(t, "the Froms", built(s.Plan, x).All(), 1150, 250)
	steps(s, x, 1)
	s.Load(0, rec("a", 1149, 1), rec("a", 1150, 2), rec("z", 1200, 3))
	s.Load(1, rec("a", 200, 1), rec("a", 250, 2), rec("b", 1000, 3))
	put(x, at("c", 1200, 4))
	y := steps(s, x, 1)
	wantList(t, "raw", y.Records(0), rec("a", 1150, 2), rec("z", 1200, 3))
	wantList(t, "fifties", y.Records(1), rec("a", 250, 7, 2), rec("b", 250, 4), rec("b", 1000, 3))
	wantList(t, "the Froms", y.All(), 1150, 250)
	want(t, "Now", y.Now, 1217)
}

func TestP1403Note(t *testing.T) {
	x := stocked()
	s := begun(x, fifties())
	// ab, a and c stand in the shards 0, 1 and 2 of three.
	for done := range 7 {
		c := s.Copy()
		var was [][]api.Record
		was = append(was, all(c)...)
		l := []api.Sample{at("ab", 252, 1), at("a", 252, 2), at("c", 252, 3), at("ab", 199, 4), at("a", 199, 5), at("c", 199, 6), at("a", 252, 7)}
		y := x.Copy()
		put(y, l...)
		c.Note(y, l...)
		filled := []bool{done >= 1, done >= 2, done >= 3, done >= 4}
		model := opened(fifties(), 257, 150, 0)
		for i := range was {
			model.Load(i, was[i]...)
		}
		if filled[0] {
			model.Load(0, rec("ab", 252, 1), rec("a", 252, 2), rec("c", 252, 3), rec("a", 252, 7))
		}
		if filled[1] {
			model.Load(1, rec("ab", 250, 1), rec("ab", 150, 4))
		}
		if filled[2] {
			model.Load(1, rec("a", 250, 2, 7), rec("a", 150, 5))
		}
		if filled[3] {
			model.Load(1, rec("c", 250, 3), rec("c", 150, 6))
		}
		wantAll(t, fmt.Sprint("noted behind ", done), c, model.Records(0), model.Records(1))
		want(t, fmt.Sprint("noted behind ", done, ": Done"), c.Done(), done)
		if done < 6 {
			steps(s, x, 1)
		}
	}
}

func TestP1403NoteDownToTheFroms(t *testing.T) {
	// A plan that takes tens for fifties has nothing of them below its base, however much there is.
	x := opened(web(), 2257)
	s := resumed(plan.Plan{To: fifties(), Sources: []int{0, 0}}, 16, 4)
	wantList(t, "the Froms", built(s.Plan, x).All(), 2200, 2150)
	for i := 2140; i < 2210; i++ {
		s.Note(x, at("a", i, 1))
	}
	wantList(t, "fifties", s.Records(1), api.Record{Name: "a", Start: 2150, Agg: api.Agg{Count: 50, Lo: 50, Min: 1, Max: 1}}, api.Record{Name: "a", Start: 2200, Agg: api.Agg{Count: 10, Lo: 10, Min: 1, Max: 1}})
	want(t, "how much of raw", len(s.Records(0)), 10)
	want(t, "the first of raw", s.Records(0)[0].Start, 2200)
	x.Tick(50)
	s.Note(x, at("b", 2249, 1), at("b", 2250, 1), at("b", 2199, 1), at("b", 2200, 1))
	wantList(t, "raw at a later time", slices.DeleteFunc(s.Records(0), func(r api.Record) bool { return r.Name == "a" }), rec("b", 2250, 1))
	wantList(t, "fifties at a later time", slices.DeleteFunc(s.Records(1), func(r api.Record) bool { return r.Name == "a" }), rec("b", 2200, 1, 1), rec("b", 2250, 1))
}

func TestP1403NoteOfNothing(t *testing.T) {
	s, x := ready(0)
	was := all(s)
	s.Note(x)
	s.Note(x, []api.Sample{}...)
	// No tier has a bucket of these; nor may a record have such a name.
	s.Note(x, at("a", -1, 1), at("a", -50, 1), at("a", least, 1), at("", 257, 1), at("A", 257, 1), at(longest+"x", 257, 1), api.Sample{})
	one := opened(named("one", tier("a", 1, 9, 1)), 257)
	for _, y := range []*tiers.Tiers{nil, {}, {Reach: x.Reach}, one} {
		s.Note(y, at("a", 257, 1), at("c", 250, 1))
	}
	wantAll(t, "behind all that", s, was...)
	s.Note(x, at("", 257, 1), at(longest, 257, 1), at("a", -1, 1))
	want(t, "is the one that may be there", len(s.Records(0)), len(was[0])+1)
}

func TestP1403NoteOfMany(t *testing.T) {
	s, x := ready(0)
	c := s.Copy()
	var l []api.Sample
	for i := range 500 {
		l = append(l, at(names()[i%6], 190+i%68, i))
	}
	s.Note(x, l...)
	for _, one := range l {
		c.Note(x, one)
	}
	wantAll(t, "all at once, and one by one", s, all(c)...)
	for _, one := range l {
		put(x, one)
	}
	step, _, e := s.Step(x)
	want(t, "Check", step, plan.Step{Kind: plan.Check})
	want(t, "Check: the error", e, api.OK)
}

func TestP1403Trim(t *testing.T) {
	s, x := ready(0)
	want(t, "Trim of what is there whole", s.Trim(x), 0)
	s.Load(0, rec("a", 199, 1), rec("a", 200, 1), rec("z", 0, 1))
	want(t, "Trim of raw", s.Trim(x), 2)
	want(t, "how much of raw", len(s.Records(0)), 5)
	x.Tick(43)
	want(t, "Trim at 300", s.Trim(x), 3)
	wantAll(t, "at 300", s, []api.Record{rec("a", 257, 7), rec("b", 250, 4)}, built(s.Plan, x).Records(1))
	x.Tick(917)
	wantList(t, "the Froms at 1217", built(s.Plan, x).All(), 1150, 250)
	want(t, "Trim at 1217", s.Trim(x), 2+5)
	wantAll(t, "at 1217", s, nil, []api.Record{rec("a", 250, 7), rec("b", 250, 4)})
	want(t, "Trim at 1217 once more", s.Trim(x), 0)
	want(t, "Done", s.Done(), 4)
	x.Tick(9000)
	want(t, "Trim of all", s.Trim(x), 2)
	wantAll(t, "at the end", s, nil, nil)
}

func TestP1403TrimOfTiersThatDoNotFit(t *testing.T) {
	s, x := ready(0)
	s.Load(0, rec("a", 0, 1))
	was := all(s)
	one := opened(named("one", tier("a", 1, 9, 1)), 5000)
	for i, y := range []*tiers.Tiers{nil, {}, {Reach: x.Reach}, one} {
		want(t, fmt.Sprint("Trim of ", i), s.Trim(y), 0)
		want(t, fmt.Sprint("Fits of ", i), s.Fits(y), false)
	}
	wantAll(t, "behind that", s, was...)
	want(t, "Trim", s.Trim(x), 1)
}

func TestP1403Fits(t *testing.T) {
	x := stocked()
	p := begun(x, fifties()).Plan
	for done := range 6 {
		for bound := range 20 {
			s := resumed(p, bound, done)
			// It is what is to be that counts, not what is there.
			want(t, fmt.Sprint("Fits of ", bound), s.Fits(x), bound >= 5)
			s.Load(1, rec("a", 1000, 1), rec("ab", 1000, 1), rec("c", 1000, 1))
			want(t, fmt.Sprint("Fits of ", bound, " where something is loaded"), s.Fits(x), bound >= 5)
		}
	}
	s := begun(x, fifties())
	for i := range 40 {
		put(x, at("a", 210+i, 1))
		want(t, fmt.Sprint("Fits with ", i), s.Fits(x), built(p, x).Need() <= 14)
	}
	want(t, "does it fit at last", s.Fits(x), false)
	x.Tick(60)
	want(t, "does it fit behind that", s.Fits(x), true)
	want(t, "Bound", s.Bound(), 14)
}

func TestP1404RecordsAndLoad(t *testing.T) {
	p := begun(stocked(), fifties()).Plan
	s := resumed(p, 16, 0)
	bad := api.Record{Name: "a", Start: 50}
	want(t, "Load of raw", s.Load(0, rec("b", 7, 1), rec("a", 9, 2), rec("b", 7, 3), rec("a", -1, 1), rec("", 1, 1), rec("A", 1, 1), bad), 3)
	wantList(t, "raw", s.Records(0), rec("a", 9, 2), rec("b", 7, 1, 3))
	want(t, "Load of fifties", s.Load(1, rec("b", 50, 1), rec("b", 51, 1), rec("b", 0, 2), rec("a", 100, 3), bad), 3)
	wantList(t, "fifties", s.Records(1), rec("a", 100, 3), rec("b", 0, 2), rec("b", 50, 1))
	want(t, "Load of fifties once more", s.Load(1, rec("a", 100, 3), rec("a", 50, 4)), 2)
	wantList(t, "fifties once more", s.Records(1), rec("a", 50, 4), rec("a", 100, 3, 3), rec("b", 0, 2), rec("b", 50, 1))
	wantList(t, "raw behind all that", s.Records(0), rec("a", 9, 2), rec("b", 7, 1, 3))
	want(t, "Load of nothing", s.Load(0)+s.Load(1), 0)
	for _, i := range []int{least, -2, -1, 2, 3, greatest} {
		want(t, fmt.Sprint("Load of tier ", i), s.Load(i, rec("a", 0, 1)), 0)
		wantList(t, fmt.Sprint("Records of tier ", i), s.Records(i))
	}
	// The last tier alone has something.
	s = resumed(p, 16, 0)
	s.Load(1, rec("b", 50, 1))
	wantAll(t, "with fifties alone", s, nil, []api.Record{rec("b", 50, 1)})
	want(t, "Load of raw behind it", s.Load(0, rec("b", 51, 1)), 1)
	wantAll(t, "with both", s, []api.Record{rec("b", 51, 1)}, []api.Record{rec("b", 50, 1)})
}

func TestP1404Need(t *testing.T) {
	p := begun(stocked(), fifties()).Plan
	s := resumed(p, 16, 0)
	want(t, "Need of nothing", s.Need(), 0)
	// ab, a and c stand in the shards 0, 1 and 2 of fifties, and all of them in the one of raw.
	for i, c := range []struct {
		tier, start int
		series      string
		need        int
	}{
		{0, 1, "a", 1}, {0, 2, "c", 1}, {0, 3, "ab", 1}, {0, 4, "c", 2}, {0, 4, "c", 2},
		{1, 0, "a", 3}, {1, 50, "a", 3}, {1, 100, "a", 3}, {1, 150, "a", 4}, {1, 0, "c", 5}, {1, 0, "ab", 6}, {1, 100, "ab", 6}, {1, 150, "a", 6},
	} {
		s.Load(c.tier, rec(c.series, c.start, 1))
		want(t, fmt.Sprint("Need behind ", i), s.Need(), c.need)
	}
	// What the tiers that are to be would not reach back to counts too.
	x := stocked()
	x.Tick(9000)
	want(t, "Need at a later time", s.Need(), 6)
	s.Trim(x)
	want(t, "Need behind Trim", s.Need(), 0)
}

// alike holds two changes against one another.
func alike(t *testing.T, what string, s, c *shadow.Shadow) {
	t.Helper()
	wantPlan(t, what, s.Plan, c.Plan)
	want(t, what+": Bound", s.Bound(), c.Bound())
	want(t, what+": Done", s.Done(), c.Done())
	wantAll(t, what, s, all(c)...)
	want(t, what+": Need", s.Need(), c.Need())
}

func TestP1404Copy(t *testing.T) {
	for done := range 7 {
		x := stocked()
		s := begun(x, fifties())
		steps(s, x, done)
		c := s.Copy()
		what := fmt.Sprint("a copy behind ", done)
		alike(t, what, c, s)
		want(t, what+": is it another one", c != s, true)
		was, kept := all(s), s.Copy()
		c.Load(0, rec("a", 257, 1), rec("z", 1, 1))
		c.Load(1, rec("a", 250, 1), rec("z", 50, 1))
		c.Note(x, at("a", 257, 1))
		c.Step(x)
		y := x.Copy()
		y.Tick(3000)
		c.Trim(y)
		c.To.Name, c.To.Tiers[0], c.Sources[0] = "z", tier("z", 9, 9, 9), 9
		wantAll(t, what+": what it was made of", s, was...)
		alike(t, what+": what it was made of", s, kept)
		want(t, what+": Done of what it was made of", s.Done(), done)
		// What goes on with the one that it was made of does not come to the copy.
		c = s.Copy()
		s.Load(0, rec("a", 257, 1), rec("z", 1, 1))
		s.Load(1, rec("a", 250, 1), rec("z", 50, 1))
		s.Step(x)
		s.Trim(y)
		s.To.Name, s.To.Tiers[0], s.Sources[0] = "z", tier("z", 9, 9, 9), 9
		alike(t, what+", when the other one goes on", c, kept)
	}
}

// key is where a record stands.
type key struct {
	series string
	start  int
}

// model is a change as its words are: of each tier all records, in no order.
type model struct {
	plan.Plan
	bound, done int
	has         []map[key]api.Agg
}

// modelled is the model of a change of which nothing is there yet.
func modelled(p plan.Plan, bound, done int) *model {
	m := &model{Plan: p, bound: bound, done: done}
	for range p.To.Tiers {
		m.has = append(m.has, map[key]api.Agg{})
	}
	return m
}

// list tells a tier's records from a Start on, in order.
func (m *model) list(i, from int) []api.Record {
	var l []api.Record
	for k, a := range m.has[i] {
		if k.start >= from {
			l = append(l, api.Record{Name: k.series, Start: k.start, Agg: a})
		}
	}
	slices.SortFunc(l, func(a, b api.Record) int {
		if a.Name != b.Name {
			return strings.Compare(a.Name, b.Name)
		}
		return a.Start - b.Start
	})
	return l
}

// load adds a record.
func (m *model) load(i int, r api.Record) int {
	if i < 0 || i >= len(m.has) || !name.Valid(r.Name) || r.Start < 0 || r.Start%m.To.Tiers[i].Every != 0 || r.Agg.Count == 0 {
		return 0
	}
	k := key{r.Name, r.Start}
	m.has[i][k] = agg.Merge(m.has[i][k], r.Agg)
	return 1
}

// step does the next step.
func (m *model) step(x *tiers.Tiers) (plan.Step, [][]api.Record, api.Errno) {
	b, e := m.Build(x)
	if e != api.OK {
		return plan.Step{}, nil, e
	}
	if m.done >= m.Steps() {
		return plan.Step{}, nil, api.ErrNone
	}
	next, _ := m.At(m.done)
	var cut [][]api.Record
	switch next.Kind {
	case plan.Fill:
		shards := m.To.Tiers[next.Tier].Shards
		for k := range m.has[next.Tier] {
			if name.Shard(k.series, shards) == next.Shard {
				delete(m.has[next.Tier], k)
			}
		}
		for _, r := range b.Records(next.Tier) {
			if name.Shard(r.Name, shards) == next.Shard {
				m.load(next.Tier, r)
			}
		}
	case plan.Check:
		for i := range m.has {
			if !slices.Equal(m.list(i, b.From(i)), b.Records(i)) {
				return plan.Step{}, nil, api.ErrSum
			}
		}
	case plan.Cut:
		for i := range m.has {
			cut = append(cut, m.list(i, b.From(i)))
		}
	}
	m.done++
	return next, cut, api.OK
}

// note adds samples where their series is filled.
func (m *model) note(x *tiers.Tiers, l ...api.Sample) {
	b, e := m.Build(x)
	if e != api.OK {
		return
	}
	for i, y := range m.To.Tiers {
		for _, s := range l {
			start := s.Time - s.Time%y.Every
			filled := false
			for k := range m.done {
				step, _ := m.At(k)
				filled = filled || step == plan.Step{Kind: plan.Fill, Tier: i, Shard: name.Shard(s.Name, y.Shards)}
			}
			if filled && start >= b.From(i) {
				m.load(i, rec(s.Name, start, s.Value))
			}
		}
	}
}

// trim lets go of what is below the Froms.
func (m *model) trim(x *tiers.Tiers) int {
	b, e := m.Build(x)
	if e != api.OK {
		return 0
	}
	n := 0
	for i := range m.has {
		for k := range m.has[i] {
			if k.start < b.From(i) {
				delete(m.has[i], k)
				n++
			}
		}
	}
	return n
}

// need tells how many blocks all records take.
func (m *model) need() int {
	n := 0
	for i, y := range m.To.Tiers {
		for shard := range y.Shards {
			count := 0
			for k := range m.has[i] {
				if name.Shard(k.series, y.Shards) == shard {
					count++
				}
			}
			n += (count + 2) / 3
		}
	}
	return n
}

// wantModel holds a change against its model.
func wantModel(t *testing.T, what string, s *shadow.Shadow, m *model) {
	t.Helper()
	wantPlan(t, what, s.Plan, m.Plan)
	want(t, what+": Bound", s.Bound(), m.bound)
	want(t, what+": Done", s.Done(), m.done)
	for i := range m.has {
		wantList(t, fmt.Sprint(what, ": tier ", i), s.Records(i), m.list(i, 0)...)
	}
	want(t, what+": Need", s.Need(), m.need())
}

// record tells some record, which may not stand in a tier at times.
func (r *row) record(now, every int) api.Record {
	start := max(now-r.next(40), -1)
	if r.next(4) > 0 {
		start -= start % every
	}
	x := rec(names()[r.next(6)], start, r.next(9)-4)
	switch r.next(12) {
	case 0:
		x.Name = "No"
	case 1:
		x.Agg = api.Agg{}
	}
	return x
}

// tiers tells the tiers that are handed in: mostly those that the change began with.
func (r *row) tiers(x *tiers.Tiers) *tiers.Tiers {
	switch r.next(16) {
	case 0:
		return nil
	case 1:
		return opened(named("one", tier("a", 1, 9, 1)), x.Now)
	case 2:
		// An earlier time of it is no other thing.
		y := x.Copy()
		y.Now = max(y.Now-r.next(20), 0)
		return y
	}
	return x
}

func TestAllCallsAgainstAModel(t *testing.T) {
	count := map[string]int{}
	for seed := range 400 {
		r := row(seed)
		first := r.policy()
		x := opened(first, 20+r.next(60), r.floors(first)...)
		for range r.next(40) {
			x.Put(r.samples(x.Now, 4)...)
		}
		s := begun(x, r.policy())
		m := modelled(s.Plan, s.Bound(), 0)
		if r.next(3) == 0 {
			m = modelled(s.Plan, r.next(30), r.next(s.Steps()))
			s = resumed(m.Plan, m.bound, m.done)
		}
		wantModel(t, fmt.Sprint("seed ", seed), s, m)
		for i := range 60 {
			what := fmt.Sprint("seed ", seed, ", call ", i)
			y := r.tiers(x)
			switch r.next(9) {
			case 0, 1:
				step, cut, e := s.Step(y)
				wstep, wcut, we := m.step(y)
				want(t, what+": Step", step, wstep)
				want(t, what+": Step's error", e, we)
				want(t, what+": are there new tiers", cut != nil, wstep.Kind == plan.Cut)
				for k, l := range wcut {
					wantList(t, fmt.Sprint(what, ": Cut, tier ", k), cut.Records(k), l...)
				}
				if cut != nil {
					b := built(m.Plan, y)
					want(t, what+": Cut: Now", cut.Now, y.Now)
					wantList(t, what+": Cut: Floors", cut.Floors, b.Floors...)
					wantList(t, what+": Cut: the tiers", cut.Policy.Tiers, m.To.Tiers...)
				}
				count[fmt.Sprint("step ", wstep.Kind, " ", we)]++
			case 2, 3, 4:
				l := r.samples(x.Now, 5)
				if x.Put(l...) == api.OK && r.next(12) > 0 {
					s.Note(y, l...)
					m.note(y, l...)
				}
			case 5:
				x.Tick(r.next(12))
			case 6:
				n := m.trim(y)
				want(t, what+": Trim", s.Trim(y), n)
				count["trimmed"] += n
			case 7:
				b, e := m.Build(y)
				fits := e == api.OK && b.Need() <= m.bound
				want(t, what+": Fits", s.Fits(y), fits)
				count[fmt.Sprint("fits ", fits)]++
			case 8:
				if r.next(6) > 0 {
					s = s.Copy()
					break
				}
				k := r.next(len(m.To.Tiers)+2) - 1
				z := r.record(x.Now, m.To.Tiers[min(max(k, 0), len(m.To.Tiers)-1)].Every)
				want(t, what+": Load", s.Load(k, z), m.load(k, z))
			}
			wantModel(t, what, s, m)
		}
	}
	for _, k := range []string{"step 1 0", "step 2 0", "step 3 0", "step 0 1", "step 0 7", "step 0 8", "trimmed", "fits true", "fits false"} {
		want(t, fmt.Sprint("are there enough of ", k, ", which are ", count[k]), count[k] > 20, true)
	}
}

// store is tiers, and all samples that they ever took.
type store struct {
	*tiers.Tiers
	taken []api.Sample
}

// wantView holds tiers against the plain model of all samples that ever came.
func wantView(t *testing.T, what string, x *tiers.Tiers, taken ...api.Sample) {
	t.Helper()
	for i := range x.Policy.Tiers {
		wantList(t, fmt.Sprint(what, ": the view of tier ", i), x.Records(i), view.Tier(x.Reach, i, taken...)...)
	}
}

// goOn puts some samples, or lets time go on; the change is told of the one, and trimmed at times behind the other.
func (r *row) goOn(x *store, s *shadow.Shadow, trim bool) {
	if r.next(4) == 0 {
		x.Tick(r.next(5) * r.next(6))
		if trim {
			s.Trim(x.Tiers)
		}
		return
	}
	if l := r.samples(x.Now, 4); x.Put(l...) == api.OK {
		s.Note(x.Tiers, l...)
		x.taken = append(x.taken, l...)
	}
}

// change does all steps of a change while all goes on, and tells the new tiers.
func (r *row) change(t *testing.T, what string, x *store, s *shadow.Shadow, trim bool) *tiers.Tiers {
	t.Helper()
	for {
		for range r.next(5) {
			r.goOn(x, s, trim)
		}
		b := built(s.Plan, x.Tiers)
		if trim && s.Need() > b.Need() {
			t.Errorf("%s: behind %d it needs %d, and what is built %d", what, s.Done(), s.Need(), b.Need())
		}
		_, y, e := s.Step(x.Tiers)
		if e != api.OK {
			t.Fatalf("%s: the step behind %d: %d", what, s.Done(), e)
		}
		if y != nil {
			want(t, what+": is what is cut over what is built", y.Same(b), true)
			return y
		}
	}
}

func TestP1405AsIfFromTheStart(t *testing.T) {
	taken, changes, records := 0, 0, 0
	for seed := range 120 {
		r := row(seed)
		first := r.policy()
		x := &store{Tiers: opened(first, r.next(60), r.floors(first)...)}
		for k := range 6 {
			to := r.policy()
			what := fmt.Sprint("seed ", seed, ", change ", k, ", from ", x.Policy.Name, " to ", to.Name)
			x.Tiers = r.change(t, what, x, begun(x.Tiers, to), seed%2 == 0)
			wantView(t, what, x.Tiers, x.taken...)
			changes++
			records += x.Len()
		}
		taken += len(x.taken)
	}
	want(t, "are enough of them taken", taken > 5000, true)
	want(t, "are there records enough", records > 5000, true)
	want(t, "are there changes enough", changes, 720)
}

func TestP1405GoneOnWith(t *testing.T) {
	// A change whose records are told, and loaded into one that goes on with it, is the same.
	for seed := range 60 {
		r := row(seed)
		first := r.policy()
		x := &store{Tiers: opened(first, r.next(60), r.floors(first)...)}
		for range 30 {
			r.goOn(x, nil, false)
		}
		s := begun(x.Tiers, r.policy())
		for {
			for range r.next(4) {
				r.goOn(x, s, r.next(2) == 0)
			}
			again := resumed(s.Plan, s.Bound(), s.Done())
			for i, l := range all(s) {
				want(t, "Load", again.Load(i, l...), len(l))
			}
			alike(t, fmt.Sprint("seed ", seed, ", behind ", s.Done()), again, s)
			s = again
			b := built(s.Plan, x.Tiers)
			_, y, e := s.Step(x.Tiers)
			want(t, fmt.Sprint("seed ", seed, ", behind ", s.Done(), ": the error"), e, api.OK)
			if y != nil {
				want(t, fmt.Sprint("seed ", seed, ": is what is cut over what is built"), y.Same(b), true)
				break
			}
		}
	}
}

func TestP1405SumsThatDoNotFit(t *testing.T) {
	x := opened(web(), 257)
	s := begun(x, fifties())
	for range 6 {
		for range 5 {
			take(s, x, at("a", 257, greatest), at("a", 251, greatest), at("b", 257, least), at("b", 250, least), at("c", 257, least), at("c", 257, greatest))
		}
		b := built(s.Plan, x)
		_, y, e := s.Step(x)
		want(t, "the error", e, api.OK)
		want(t, "is what is cut over what is built", y == nil || y.Same(b), true)
	}
	a := s.Records(1)[0]
	want(t, "how many", a.Agg.Count, 60)
	n, over := agg.Sum(a.Agg)
	want(t, "the sum", n, greatest)
	want(t, "does it not fit", over, true)
}

func TestP1405NilShadow(t *testing.T) {
	var s *shadow.Shadow
	x := stocked()
	want(t, "Bound", s.Bound(), 0)
	want(t, "Done", s.Done(), 0)
	next, is := s.Next()
	want(t, "Next", next, plan.Step{})
	want(t, "is there a next one", is, false)
	for _, y := range []*tiers.Tiers{nil, {}, x} {
		step, cut, e := s.Step(y)
		want(t, "Step", step, plan.Step{})
		want(t, "are there new tiers", cut != nil, false)
		want(t, "Step's error", e, api.ErrArg)
		s.Note(y, at("a", 257, 1))
		s.Note(y)
		want(t, "Trim", s.Trim(y), 0)
		want(t, "Fits", s.Fits(y), false)
	}
	for _, i := range []int{least, -1, 0, 1, greatest} {
		wantList(t, "Records", s.Records(i))
		want(t, "Load", s.Load(i, rec("a", 0, 1)), 0)
		want(t, "Load of nothing", s.Load(i), 0)
	}
	want(t, "Need", s.Need(), 0)
	want(t, "is there a copy", s.Copy() != nil, false)
}

func TestZeroShadow(t *testing.T) {
	s := &shadow.Shadow{}
	x := stocked()
	for range 2 {
		want(t, "Steps", s.Steps(), 0)
		want(t, "Bound", s.Bound(), 0)
		want(t, "Done", s.Done(), 0)
		next, is := s.Next()
		want(t, "Next", next, plan.Step{})
		want(t, "is there a next one", is, false)
		for _, y := range []*tiers.Tiers{nil, {}, x, opened(web(), 0)} {
			step, cut, e := s.Step(y)
			want(t, "Step", step, plan.Step{})
			want(t, "are there new tiers", cut != nil, false)
			want(t, "Step's error", e, api.ErrArg)
			s.Note(y, at("a", 257, 1))
			want(t, "Trim", s.Trim(y), 0)
			want(t, "Fits", s.Fits(y), false)
		}
		for _, i := range []int{least, -1, 0, 1, greatest} {
			want(t, "Load", s.Load(i, rec("a", 0, 1)), 0)
			wantList(t, "Records", s.Records(i))
		}
		want(t, "Need", s.Need(), 0)
		want(t, "is there a copy", s.Copy() != nil, true)
		s = s.Copy()
	}
}

func TestShadowOfAPlanAlone(t *testing.T) {
	// It is one of which no step is done, and which may take no blocks.
	x := stocked()
	p := begun(x, fifties()).Plan
	s := &shadow.Shadow{Plan: p}
	alike(t, "a plan alone", s, resumed(p, 0, 0))
	want(t, "Fits", s.Fits(x), false)
	want(t, "Trim", s.Trim(x), 0)
	alike(t, "its copy", s.Copy(), resumed(p, 0, 0))
	b := built(p, x)
	y := steps(s, x, 6)
	want(t, "is what is cut over what is built", y.Same(b), true)
}

// wantApart wants texts to share no bytes with others.
func wantApart(t *testing.T, what string, l []string, others ...string) {
	t.Helper()
	want(t, what+": are there any", len(l) > 0 && len(others) > 0, true)
	for _, r := range l {
		for _, s := range others {
			from, to := uintptr(unsafe.Pointer(unsafe.StringData(r))), uintptr(unsafe.Pointer(unsafe.StringData(s)))
			if from < to+uintptr(len(s)) && to < from+uintptr(len(r)) {
				t.Errorf("%s: %q and %q share their bytes", what, r, s)
			}
		}
	}
}

// texts are the names of a policy.
func texts(p api.Policy) []string {
	l := []string{p.Name}
	for _, x := range p.Tiers {
		l = append(l, x.Name)
	}
	return l
}

// series are the names of all records.
func series(l ...[]api.Record) []string {
	var s []string
	for _, x := range l {
		for _, r := range x {
			s = append(s, r.Name)
		}
	}
	return s
}

func TestTextsAreKeptApart(t *testing.T) {
	text := strings.Clone("web raw tens cpu disk")
	to := named(text[:3], tier(text[4:7], 1, 100, 2), tier(text[8:12], 10, 1000, 1))
	x := stocked()
	s := begun(x, to)
	wantApart(t, "the plan and what it was begun of", texts(s.To), text)
	r := resumed(plan.Plan{To: to, Sources: []int{0, 1}}, 9, 0)
	wantApart(t, "the plan and what it goes on with", texts(r.To), text)
	c := s.Copy()
	wantApart(t, "the plan and that of a copy", texts(s.To), texts(c.To)...)
	r.Load(0, rec(text[13:16], 200, 1), rec(text[17:], 201, 1))
	wantApart(t, "the records and what was loaded", series(r.Records(0)), text)
	steps(s, x, 3)
	take(s, x, at(text[13:16], 200, 1), at(text[17:], 201, 1))
	wantApart(t, "the records and what was noted", series(all(s)...), text)
	wantApart(t, "the records, told twice", series(all(s)...), series(all(s)...)...)
	wantApart(t, "the records and those that go on", series(all(s)...), series(x.Records(0), x.Records(1))...)
	wantApart(t, "the records and those of a copy", series(all(s)...), series(all(s.Copy())...)...)
	y := steps(s, x, 2)
	wantApart(t, "the new tiers and the plan", texts(y.Policy), texts(s.To)...)
	wantApart(t, "the new tiers' records and the shadow's", series(y.Records(0), y.Records(1)), series(all(s)...)...)
	wantApart(t, "the new tiers' records and what was noted", series(y.Records(0), y.Records(1)), text)
}

func TestAnswersOwnTheirMemory(t *testing.T) {
	x, to := stocked(), fifties()
	s := begun(x, to)
	to.Tiers[0] = tier("z", 9, 9, 9)
	wantPlan(t, "the plan, when what was handed in changes", s.Plan, plan.Plan{To: fifties(), Sources: []int{0, 1}})
	p := plan.Plan{To: fifties(), Sources: []int{0, 1}}
	r := resumed(p, 16, 0)
	p.To.Tiers[0], p.Sources[1] = tier("z", 9, 9, 9), 9
	wantPlan(t, "the plan that goes on, when what was handed in changes", r.Plan, plan.Plan{To: fifties(), Sources: []int{0, 1}})

	steps(s, x, 5)
	was := s.Copy()
	l := s.Records(1)
	l[0] = rec("z", 0, 9)
	_ = append(l[:1], l[0])
	alike(t, "when what was told changes", s, was)
	in := []api.Record{rec("z", 300, 1), rec("y", 300, 1)}
	s.Load(1, in...)
	wantList(t, "what was loaded", in, rec("z", 300, 1), rec("y", 300, 1))
	was = s.Copy()
	in[0] = rec("x", 300, 1)
	alike(t, "when what was loaded changes", s, was)
	noted := []api.Sample{at("z", 257, 1), at("b", 256, 1)}
	s.Note(x, noted...)
	wantList(t, "what was noted", noted, at("z", 257, 1), at("b", 256, 1))
	want(t, "what it was begun of", x.Same(stocked()), true)

	was = s.Copy()
	y := steps(s, x, 1)
	told := y.Copy()
	put(y, at("a", 250, 9))
	y.Tick(900)
	y.Policy.Tiers[0], y.Floors[0] = tier("z", 9, 9, 9), 99
	wantPlan(t, "when the new tiers change", s.Plan, was.Plan)
	wantAll(t, "when the new tiers change", s, all(was)...)
	z := steps(was, x, 1)
	s.Load(0, rec("a", 250, 1))
	s.Note(x, at("c", 250, 1))
	want(t, "the new tiers, when the shadow changes", z.Same(told), true)
	put(x, at("c", 250, 1))
	x.Tick(900)
	want(t, "the new tiers, when the old ones change", z.Same(told), true)
}

func TestManyRecordsAtOnce(t *testing.T) {
	x := opened(named("p", tier("a", 1, 3000, 1), tier("b", 10, 100000, 4)), 99999)
	var fine, coarse []api.Record
	for i := 99500; i < 100000; i++ {
		for k := range 20 {
			fine = append(fine, rec(fmt.Sprint("s", k), i, 1))
		}
	}
	for i := 80000; i < 100000; i += 10 {
		coarse = append(coarse, rec("s0", i, 1), rec("s1", i, 1))
	}
	x.Load(0, fine...)
	x.Load(1, coarse...)
	s := begun(x, named("q", tier("a", 1, 400, 8), tier("b", 20, 4000, 2), tier("c", 1000, 50000, 8)))
	for i := range 100 {
		take(s, x, at(fmt.Sprint("s", i%20), 99990, i), at("new", 99900+i, i))
		if i%10 == 9 {
			x.Tick(1)
			s.Trim(x)
		}
		if i%5 == 4 {
			steps(s, x, 1)
			want(t, "Fits", s.Fits(x), true)
		}
	}
	want(t, "Done", s.Done(), 20)
	want(t, "raw", len(s.Records(0)) > 7000, true)
	want(t, "twenties", len(s.Records(1)) > 400, true)
	want(t, "thousands", len(s.Records(2)) > 40, true)
}

func TestReadme(t *testing.T) {
	x := opened(web(), 257)
	put(x, at("cpu", 160, 4), at("cpu", 199, 6), at("cpu", 210, 5))
	s, e := shadow.Begin(x, fifties())
	want(t, "the error", e, api.OK)
	want(t, "Bound", s.Bound(), 8)
	step, y, e := s.Step(x)
	want(t, "Step", step, plan.Step{Kind: plan.Fill})
	want(t, "are there new tiers", y != nil, false)
	want(t, "Step's error", e, api.OK)
	next, is := s.Next()
	want(t, "Next", next, plan.Step{Kind: plan.Fill, Tier: 1})
	want(t, "is there a next one", is, true)
	l := at("cpu", 257, 7)
	want(t, "Put", x.Put(l), api.OK)
	s.Note(x, l)
	wantAll(t, "behind Note", s, []api.Record{rec("cpu", 210, 5), rec("cpu", 257, 7)}, nil)
	want(t, "Tick", x.Tick(10), api.OK)
	want(t, "Trim", s.Trim(x), 0)
	want(t, "Fits", s.Fits(x), true)
	for s.Done() < s.Steps() {
		step, y, e = s.Step(x)
		want(t, "Step's error", e, api.OK)
	}
	want(t, "the last step", step, plan.Step{Kind: plan.Cut})
	wantList(t, "raw", y.Records(0), rec("cpu", 210, 5), rec("cpu", 257, 7))
	wantList(t, "fifties", y.Records(1), rec("cpu", 150, 4, 6), rec("cpu", 200, 5), rec("cpu", 250, 7))
}
