package state_test

import (
	"fmt"
	"math"
	"slices"
	"strings"
	"testing"
	"unsafe"

	"sediment/agg"
	"sediment/api"
	"sediment/name"
	"sediment/plan"
	"sediment/policy"
	"sediment/reach"
	"sediment/shadow"
	"sediment/state"
	"sediment/tiers"
	"sediment/view"
)

const (
	least    = math.MinInt
	greatest = math.MaxInt
	longest  = "fifteen.bytes-_" // a name of as many bytes as it may have
	full     = 6                 // the blocks that stocked needs
	bound    = 14                // those that a change of it to fifties may take
)

// want holds an answer against what is wanted.
func want[T comparable](t *testing.T, what string, got, wanted T) {
	t.Helper()
	if got != wanted {
		t.Errorf("%s: %v, not %v", what, got, wanted)
	}
}

// wantList holds a list against what is wanted; nil and empty ones are one.
func wantList[T comparable](t *testing.T, what string, got []T, wanted ...T) {
	t.Helper()
	if !slices.Equal(got, wanted) {
		t.Errorf("%s: %v, not %v", what, got, wanted)
	}
}

// wantPolicy holds a policy against what is wanted.
func wantPolicy(t *testing.T, what string, got, wanted api.Policy) {
	t.Helper()
	want(t, what+": the name", got.Name, wanted.Name)
	wantList(t, what+": the tiers", got.Tiers, wanted.Tiers...)
}

// named is a policy of that name and those tiers.
func named(s string, l ...api.Tier) api.Policy { return api.Policy{Name: s, Tiers: l} }

// tier is a tier.
func tier(s string, every, keep, shards int) api.Tier {
	return api.Tier{Name: s, Every: every, Keep: keep, Shards: shards}
}

// web is the policy of chapter 8.
func web() api.Policy { return named("web", tier("raw", 1, 100, 2), tier("tens", 10, 1000, 1)) }

// fifties is the policy that web becomes in chapter 13.
func fifties() api.Policy {
	return named("fifties", tier("raw", 1, 50, 1), tier("fifties", 50, 5000, 3))
}

// one is a policy of one tier, of one shard.
func one() api.Policy { return named("one", tier("a", 1, 100, 1)) }

// small is a policy whose tiers soon give up what they have.
func small() api.Policy {
	return named("small", tier("a", 1, 3, 1), tier("b", 2, 5, 3), tier("c", 6, 12, 2))
}

// policies are policies of one to five tiers.
func policies() []api.Policy {
	return []api.Policy{
		web(), fifties(), small(), one(), named("p", tier("a", 1, 7, 8)), named("q", tier("a", 1, 4, 2), tier("b", 3, 4, 1)),
		named("r", tier("a", 1, 2, 1), tier("b", 2, 2, 1), tier("c", 4, 9, 2), tier("d", 8, 16, 3), tier("e", 24, 40, 4)),
		named("s", tier("a", 1, 30, 1), tier("b", 5, 45, 2), tier("c", 15, 90, 1)),
		named("u", tier("a", 1, 9, 3), tier("b", 7, 20, 1), tier("c", 14, 60, 8)),
	}
}

// text is the text of a policy that may be.
func text(p api.Policy) string {
	s, e := policy.Print(p)
	if e != api.OK {
		panic(fmt.Sprint("Print of ", p, ": ", e))
	}
	return s
}

// wrong is a text that is no policy, or one that may not be: the error, and the line or the tier.
type wrong struct {
	text string
	e    api.Errno
	at   int
}

// wrongs are such texts.
func wrongs() []wrong {
	return []wrong{
		{"", api.ErrPolicy, 1}, {"x", api.ErrPolicy, 1}, {"\n\npolice a\n", api.ErrPolicy, 3}, {"policy a\n\ntier r every 1 keep 9\n", api.ErrPolicy, 3},
		{"policy a\x01", api.ErrPolicy, 1}, {"policy a\n#\xff", api.ErrPolicy, 2}, {strings.Repeat(" ", 4001), api.ErrLong, 0},
		{"policy a\n", api.ErrRule, 0}, {"policy A\ntier r every 1 keep 9 shards 1\n", api.ErrRule, 0}, {"policy a\ntier r every 2 keep 9 shards 1\n", api.ErrRule, 1},
		{"policy a\ntier r every 1 keep 9 shards 1\ntier s every 2 keep 8 shards 1\n", api.ErrRule, 2}, {"policy a\ntier r every 1 keep 9 shards 9\n", api.ErrRule, 1},
	}
}

// at is a sample.
func at(s string, time, v int) api.Sample { return api.Sample{Name: s, Time: time, Value: v} }

// rec is the record of these values.
func rec(s string, start int, v ...int) api.Record {
	return api.Record{Name: s, Start: start, Agg: agg.Of(v...)}
}

// opened are empty tiers that must be there.
func opened(p api.Policy, now int, floors ...int) *tiers.Tiers {
	x, e := tiers.New(p, now, floors...)
	if e != api.OK {
		panic(fmt.Sprint("New of ", p, ": ", e))
	}
	return x
}

// stocked are tiers of the policy of chapter 8 at 257, which reach back to 150 and to 0.
func stocked() *tiers.Tiers {
	x := opened(web(), 257)
	if e := x.Put(at("a", 150, 1), at("a", 153, 2), at("b", 250, 4), at("a", 160, 5), at("a", 257, 7), at("b", 203, 8), at("b", 202, -1)); e != api.OK {
		panic(fmt.Sprint("Put: ", e))
	}
	x.Load(1, rec("a", 0, 11), rec("a", 140, 3, 4), rec("c", 50, 6), rec("c", 90, 2))
	return x
}

// begun is a change that must begin.
func begun(x *tiers.Tiers, to api.Policy) *shadow.Shadow {
	s, e := shadow.Begin(x, to)
	if e != api.OK {
		panic(fmt.Sprint("Begin of ", to, ": ", e))
	}
	return s
}

// resumed is a change that must go on.
func resumed(p plan.Plan, bound, done int) *shadow.Shadow {
	s, e := shadow.Resume(p, bound, done)
	if e != api.OK {
		panic(fmt.Sprint("Resume of ", p, ", ", bound, ", ", done, ": ", e))
	}
	return s
}

// built is what a plan builds, which must fit.
func built(p plan.Plan, x *tiers.Tiers) *tiers.Tiers {
	b, e := p.Build(x)
	if e != api.OK {
		panic(fmt.Sprint("Build: ", e))
	}
	return b
}

// empty is a store that must be.
func empty(room int, p api.Policy) *state.State {
	s, e := state.New(room, text(p))
	if e != api.OK {
		panic(fmt.Sprint("New of ", room, ", ", p, ": ", e))
	}
	return s
}

// made is a store that must be.
func made(room int, x *tiers.Tiers, c *shadow.Shadow) *state.State {
	s, e := state.Make(room, x, c)
	if e != api.OK {
		panic(fmt.Sprint("Make of ", room, ": ", e))
	}
	return s
}

// changing is a store of stocked in which the change to fifties is under way, so many of its steps being done.
func changing(room, done int) *state.State {
	s := made(room, stocked(), nil)
	if e, _ := s.Change(text(fifties())); e != api.OK {
		panic(fmt.Sprint("Change: ", e))
	}
	steps(s, done)
	return s
}

// steps does so many steps, which must be done.
func steps(s *state.State, n int) {
	for range n {
		if _, e := s.Step(); e != api.OK {
			panic(fmt.Sprint("Step: ", e))
		}
	}
}

// wantStep does a step, and holds it against what is wanted.
func wantStep(t *testing.T, what string, s *state.State, wanted plan.Step, e api.Errno) {
	t.Helper()
	step, told := s.Step()
	want(t, what+": the step", step, wanted)
	want(t, what+": the step's error", told, e)
}

// wantChange begins a change, and holds what is told against what is wanted.
func wantChange(t *testing.T, what string, s *state.State, text string, e api.Errno, at int) {
	t.Helper()
	told, n := s.Change(text)
	want(t, what+": the error", told, e)
	want(t, what+": where", n, at)
}

// wantTiers holds tiers against others, floors too.
func wantTiers(t *testing.T, what string, x, y *tiers.Tiers) {
	t.Helper()
	want(t, what+": Now", x.Now, y.Now)
	wantPolicy(t, what, x.Policy, y.Policy)
	wantList(t, what+": Floors", x.Floors, y.Floors...)
	for i := range y.Policy.Tiers {
		wantList(t, fmt.Sprint(what, ": tier ", i), x.Records(i), y.Records(i)...)
	}
}

// wantShadow holds a change against another one; nil is none.
func wantShadow(t *testing.T, what string, s, c *shadow.Shadow) {
	t.Helper()
	want(t, what+": is a change under way", s != nil, c != nil)
	if s == nil || c == nil {
		return
	}
	wantPolicy(t, what+": the plan", s.To, c.To)
	wantList(t, what+": Sources", s.Sources, c.Sources...)
	want(t, what+": Bound", s.Bound(), c.Bound())
	want(t, what+": Done", s.Done(), c.Done())
	for i := range c.To.Tiers {
		wantList(t, fmt.Sprint(what, ": tier ", i, " that is to be"), s.Records(i), c.Records(i)...)
	}
}

// alike holds two stores against one another, in all that can be asked.
func alike(t *testing.T, what string, s, c *state.State) {
	t.Helper()
	want(t, what+": Room", s.Room(), c.Room())
	want(t, what+": Need", s.Need(), c.Need())
	want(t, what+": Pending", s.Pending(), c.Pending())
	wantTiers(t, what, s.Tiers(), c.Tiers())
	wantShadow(t, what, s.Shadow(), c.Shadow())
	want(t, what+": Same", s.Same(c), true)
	want(t, what+": Same, the other way", c.Same(s), true)
}

// row is a row of numbers that look like chance, but are the same each time.
type row uint64

// next tells the next number, below n.
func (r *row) next(n int) int {
	*r = *r*6364136223846793005 + 1442695040888963407
	return int(*r>>33) % n
}

// policy tells one of the policies.
func (r *row) policy() api.Policy { return policies()[r.next(len(policies()))] }

// floors tells floors that some of the first tiers of a policy may have.
func (r *row) floors(p api.Policy) []int {
	var l []int
	for _, x := range p.Tiers[:r.next(len(p.Tiers)+1)] {
		l = append(l, x.Every*r.next(9))
	}
	return l
}

// names are those of the series that row's samples have.
func names() []string { return []string{"a", "b", "c", "ab", "z0", longest} }

// samples tells up to n of them, mostly of times that have come.
func (r *row) samples(now, n int) []api.Sample {
	var l []api.Sample
	for range 1 + r.next(n) {
		l = append(l, at(names()[r.next(6)], max(now-r.next(9), 0), r.next(9)-4))
	}
	switch r.next(30) {
	case 0:
		l[r.next(len(l))].Time = now + 1
	case 1:
		l[r.next(len(l))].Name = "No"
	case 2:
		l[r.next(len(l))].Time = -1
	}
	return l
}

func TestP1501New(t *testing.T) {
	for _, p := range policies() {
		for _, room := range []int{0, 1, 7, 100, 4095, 4096} {
			what := fmt.Sprint("New of ", room, ", ", p.Name)
			s, e := state.New(room, text(p))
			want(t, what+": the error", e, api.OK)
			want(t, what+": Room", s.Room(), room)
			want(t, what+": Need", s.Need(), 0)
			want(t, what+": Pending", s.Pending(), false)
			want(t, what+": is a change told", s.Shadow() != nil, false)
			wantTiers(t, what, s.Tiers(), opened(p, 0))
			want(t, what+": are there no records", s.Tiers().Empty(), true)
		}
	}
}

func TestP1501NewOfWhatMayNotBe(t *testing.T) {
	refused := func(what string, room int, text string, wanted api.Errno) {
		t.Helper()
		s, e := state.New(room, text)
		want(t, what+": the error", e, wanted)
		want(t, what+": is there something", s != nil, false)
	}
	for i, w := range wrongs() {
		for _, room := range []int{0, 9, 4096} {
			refused(fmt.Sprint("the wrong text ", i, ", room ", room), room, w.text, w.e)
		}
	}
	for _, room := range []int{least, -4096, -1, 4097, 5000, greatest} {
		refused(fmt.Sprint("room ", room), room, text(web()), api.ErrArg)
		for i, w := range wrongs() {
			refused(fmt.Sprint("the wrong text ", i, ", room ", room), room, w.text, api.ErrArg)
		}
	}
}

func TestP1501Make(t *testing.T) {
	x := stocked()
	want(t, "what the tiers need", x.Need(), full)
	s := made(9, x, nil)
	wantTiers(t, "no change", s.Tiers(), stocked())
	want(t, "no change: Room", s.Room(), 9)
	want(t, "no change: Need", s.Need(), full)
	want(t, "no change: Pending", s.Pending(), false)
	want(t, "no change: is one told", s.Shadow() != nil, false)
	for done := range 6 {
		c := begun(x, fifties())
		for range done {
			c.Step(x)
		}
		what := fmt.Sprint("a change, ", done, " done")
		s := made(30, x, c)
		wantTiers(t, what, s.Tiers(), stocked())
		wantShadow(t, what, s.Shadow(), c)
		want(t, what+": Room", s.Room(), 30)
		want(t, what+": Need", s.Need(), full+bound)
		want(t, what+": Pending", s.Pending(), true)
		for k := done; k < 6; k++ {
			wanted, _ := c.At(k)
			wantStep(t, what, s, wanted, api.OK)
		}
		want(t, what+": are the new tiers what is built", s.Tiers().Same(built(c.Plan, x)), true)
		want(t, what+": Done of what was handed in", c.Done(), done)
	}
}

func TestP1501MakeKeepsFloors(t *testing.T) {
	x := opened(web(), 257, 200, 60)
	s := made(9, x, nil)
	wantTiers(t, "with floors", s.Tiers(), x)
	want(t, "Put below the floor", s.Put(at("a", 199, 1)), api.ErrOld)
	want(t, "Put at the floor", s.Put(at("a", 200, 1)), api.OK)
}

func TestP1501MakeOfWhatMayNotBe(t *testing.T) {
	refused := func(what string, room int, x *tiers.Tiers, c *shadow.Shadow, wanted api.Errno) {
		t.Helper()
		s, e := state.Make(room, x, c)
		want(t, what+": the error", e, wanted)
		want(t, what+": is there something", s != nil, false)
	}
	x := stocked()
	c := begun(x, fifties())
	for _, room := range []int{least, -1, 4097, greatest} {
		refused(fmt.Sprint("room ", room), room, x, nil, api.ErrArg)
		refused(fmt.Sprint("room ", room, ", with a change"), room, x, c, api.ErrArg)
		refused(fmt.Sprint("room ", room, ", nil tiers"), room, nil, nil, api.ErrArg)
	}
	for _, room := range []int{0, 9, 4096} {
		refused(fmt.Sprint("nil tiers, room ", room), room, nil, nil, api.ErrArg)
		refused(fmt.Sprint("nil tiers, with a change, room ", room), room, nil, c, api.ErrArg)
	}
	// Plans that do not fit are told ahead of a room that lacks.
	late := stocked()
	late.Now = api.MaxTime + 1
	for _, room := range []int{0, full - 1, 30, 4096} {
		for _, l := range [][]int{nil, {}, {0}, {1, 1}, {0, 2}, {0, -1}, {0, 0, 0}, {greatest, least}} {
			refused(fmt.Sprint("the sources ", l, ", room ", room), room, x, resumed(plan.Plan{To: fifties(), Sources: l}, bound, 0), api.ErrArg)
			refused(fmt.Sprint("the sources ", l, ", room ", room, ", the greatest bound"), room, x, resumed(plan.Plan{To: fifties(), Sources: l}, greatest, 0), api.ErrArg)
		}
		refused(fmt.Sprint("a zero change, room ", room), room, x, &shadow.Shadow{}, api.ErrArg)
		refused(fmt.Sprint("a policy that may not be, room ", room), room, x, resumed(plan.Plan{To: named("p", tier("a", 1, 5, 9)), Sources: []int{0}}, bound, 0), api.ErrArg)
		refused(fmt.Sprint("a change of other tiers, room ", room), room, opened(one(), 257), c, api.ErrArg)
		refused(fmt.Sprint("zero tiers, with a change, room ", room), room, &tiers.Tiers{}, c, api.ErrArg)
		refused(fmt.Sprint("a time that may not be, with a change, room ", room), room, late, c, api.ErrArg)
	}
	want(t, "what was handed in", x.Same(stocked()), true)
	wantShadow(t, "what was handed in", c, begun(x, fifties()))
}

func TestP1501MakeAsksForRoom(t *testing.T) {
	x := stocked()
	p := begun(x, fifties()).Plan
	b := built(p, x).Need()
	want(t, "what is to be needs", b, 5)
	for room := range 40 {
		wanted := api.OK
		if room < full {
			wanted = api.ErrNoSpace
		}
		s, e := state.Make(room, x, nil)
		want(t, fmt.Sprint("room ", room), e, wanted)
		want(t, fmt.Sprint("room ", room, ": is there something"), s != nil, e == api.OK)
		for most := range 40 {
			what := fmt.Sprint("room ", room, ", a bound of ", most)
			wanted = api.OK
			if full+most > room || most < b {
				wanted = api.ErrNoSpace
			}
			s, e = state.Make(room, x, resumed(p, most, 0))
			want(t, what, e, wanted)
			want(t, what+": is there something", s != nil, e == api.OK)
			if s != nil {
				want(t, what+": Need", s.Need(), full+most)
			}
		}
		for _, most := range []int{4097, greatest - full, greatest - full + 1, greatest} {
			_, e = state.Make(room, x, resumed(p, most, 0))
			want(t, fmt.Sprint("room ", room, ", a bound of ", most), e, api.ErrNoSpace)
		}
	}
	_, e := state.Make(4096, x, resumed(p, 4096-full, 0))
	want(t, "all the room there may be", e, api.OK)
	_, e = state.Make(4096, x, resumed(p, 4097-full, 0))
	want(t, "a block more", e, api.ErrNoSpace)
}

func TestP1501MakeOfOddParts(t *testing.T) {
	// Zero tiers need nothing, and take nothing.
	s, e := state.Make(0, &tiers.Tiers{}, nil)
	want(t, "zero tiers: the error", e, api.OK)
	want(t, "zero tiers: are they there", s.Tiers() != nil, true)
	want(t, "zero tiers: Put", s.Put(at("a", 0, 1)), api.ErrArg)
	want(t, "zero tiers: Tick", s.Tick(1), api.ErrArg)
	_, e = s.Ask("a", 0, 1)
	want(t, "zero tiers: Ask", e, api.ErrArg)
	wantChange(t, "zero tiers", s, text(web()), api.ErrRule, 0)
	wantStep(t, "zero tiers", s, plan.Step{}, api.ErrNone)
	want(t, "zero tiers: Abort", s.Abort(), api.ErrNone)
	want(t, "zero tiers: a copy", s.Same(s.Copy()), true)
	want(t, "zero tiers: is that none", s.Same(nil) || s.Same(&state.State{}), false)

	// Tiers of a time that may not be go on as they are; no change of them begins.
	x := stocked()
	x.Now = api.MaxTime + 1
	s = made(100, x, nil)
	want(t, "a time that may not be: Tick", s.Tick(0), api.ErrClock)
	wantChange(t, "a time that may not be", s, text(web()), api.ErrArg, 0)
	want(t, "a time that may not be: Pending", s.Pending(), false)

	// A change that may take no blocks is one, where nothing is to be.
	s = made(0, opened(web(), 257), resumed(begun(stocked(), fifties()).Plan, 0, 0))
	want(t, "a bound of 0: Pending", s.Pending(), true)
	want(t, "a bound of 0: Put", s.Put(at("a", 257, 1)), api.ErrNoSpace)
	wantChange(t, "a bound of 0", s, text(web()), api.ErrPending, 0)
	steps(s, 6)
	wantTiers(t, "a bound of 0", s.Tiers(), opened(fifties(), 257, 150, 0))

	// A change of which all is done is under way until it is given up.
	c := begun(stocked(), fifties())
	for range 6 {
		c.Step(stocked())
	}
	s = made(100, stocked(), c)
	want(t, "all done: Pending", s.Pending(), true)
	wantShadow(t, "all done", s.Shadow(), c)
	wantStep(t, "all done", s, plan.Step{}, api.ErrNone)
	want(t, "all done: Pending behind a step", s.Pending(), true)
	want(t, "all done: Abort", s.Abort(), api.OK)
	want(t, "all done: Pending behind Abort", s.Pending(), false)
}

func TestP1501Need(t *testing.T) {
	s := empty(100, web())
	want(t, "Need of nothing", s.Need(), 0)
	s.Tick(257)
	s.Put(at("a", 250, 1))
	want(t, "Need of a sample in two tiers", s.Need(), 2)
	s.Put(at("b", 250, 1), at("a", 257, 1))
	want(t, "Need of three", s.Need(), s.Tiers().Need())
	was := s.Need()
	wantChange(t, "a change", s, text(fifties()), api.OK, 0)
	want(t, "Need with a change", s.Need(), was+s.Shadow().Bound())
	for k := range 5 {
		steps(s, 1)
		want(t, fmt.Sprint("Need behind step ", k), s.Need(), was+s.Shadow().Bound())
	}
	steps(s, 1)
	want(t, "Need behind the cut", s.Need(), s.Tiers().Need())
}

func TestP1502Put(t *testing.T) {
	s := made(100, stocked(), nil)
	x := stocked()
	for _, l := range [][]api.Sample{
		{at("a", 257, 1)}, {at("a", 150, 1), at("a", 150, 2)}, {at("b", 200, greatest), at("b", 200, 1)}, {at(longest, 151, least)},
		{at("a", 201, 1), at("b", 202, 2), at("c", 203, 3), at("a", 204, 4), at("a", 205, 5), at("a", 206, 6), at("a", 207, 7), at("a", 208, 8)},
	} {
		want(t, fmt.Sprint("Put of ", l), s.Put(l...), api.OK)
		x.Put(l...)
		wantTiers(t, fmt.Sprint("behind ", l), s.Tiers(), x)
		want(t, fmt.Sprint("Need behind ", l), s.Need(), x.Need())
	}
}

func TestP1502PutOfWhatMayNotCome(t *testing.T) {
	nine := slices.Repeat([]api.Sample{at("a", 257, 1)}, 9)
	// Behind a cut too early samples are those below the base.
	for done, s := range []*state.State{changing(100, 0), changing(100, 3), changing(100, 5), changing(100, 6), made(100, stocked(), nil), made(full, stocked(), nil)} {
		first := s.Tiers().From(0)
		for i, c := range []struct {
			l []api.Sample
			e api.Errno
		}{
			{nil, api.ErrArg}, {[]api.Sample{}, api.ErrArg}, {nine, api.ErrLong}, {slices.Repeat([]api.Sample{{}}, 9), api.ErrLong},
			{[]api.Sample{at("", 257, 1)}, api.ErrArg}, {[]api.Sample{at("A", 257, 1)}, api.ErrArg}, {[]api.Sample{at(longest+"x", 257, 1)}, api.ErrArg},
			{[]api.Sample{at("a", -1, 1)}, api.ErrArg}, {[]api.Sample{at("a", least, 1)}, api.ErrArg}, {[]api.Sample{at("a", 258, 1)}, api.ErrFuture}, {[]api.Sample{at("a", greatest, 1)}, api.ErrFuture},
			{[]api.Sample{at("a", first-1, 1)}, api.ErrOld}, {[]api.Sample{at("a", 257, 1), at("a", first-1, 1), at("a", 258, 1)}, api.ErrOld}, {[]api.Sample{at("a", 257, 1), at("a", 258, 1), at("a", -1, 1)}, api.ErrFuture},
		} {
			was := s.Copy()
			what := fmt.Sprint("the store ", done, ", the wrong samples ", i)
			want(t, what, s.Put(c.l...), c.e)
			alike(t, what, s, was)
		}
	}
}

func TestP1502PutAsksForRoom(t *testing.T) {
	// Of one tier, of one shard, each third record takes a block more.
	for room := range 5 {
		s := empty(room, one())
		s.Tick(50)
		for i := range 15 {
			was := s.Copy()
			wanted := api.OK
			if i >= 3*room {
				wanted = api.ErrNoSpace
			}
			what := fmt.Sprint("room ", room, ", sample ", i)
			want(t, what, s.Put(at("a", i, 1)), wanted)
			if wanted != api.OK {
				alike(t, what, s, was)
			}
			want(t, what+": Need", s.Need(), (min(i+1, 3*room)+2)/3)
		}
		if room > 0 {
			want(t, "what stands there already takes no room", s.Put(at("a", 0, 2), at("a", 1, 2)), api.OK)
			was := s.Copy()
			want(t, "all or none", s.Put(at("a", 0, 2), at("a", 1, 2), at("a", 49, 3)), api.ErrNoSpace)
			alike(t, "all or none", s, was)
			want(t, "what may not come is told ahead of the room", s.Put(at("a", 49, 2), at("a", 51, 2)), api.ErrFuture)
		}
		s.Tick(51)
		want(t, "where time has gone on", s.Put(at("a", 101, 1)), map[bool]api.Errno{true: api.OK, false: api.ErrNoSpace}[room > 0])
	}
}

func TestP1502PutAsksForTheChangesRoom(t *testing.T) {
	// The change from one policy of one tier, of one shard, to another one has a bound of twice the blocks, and 1.
	two := named("two", tier("a", 1, 100, 1))
	for room := range 20 {
		s := empty(20, one())
		s.Tick(50)
		s.Put(at("a", 1, 1), at("a", 2, 1), at("a", 3, 1), at("a", 4, 1))
		c := begun(s.Tiers(), two)
		want(t, "the bound", c.Bound(), 5)
		s, e := state.Make(room, s.Tiers(), c)
		if room < 7 {
			want(t, fmt.Sprint("room ", room), e, api.ErrNoSpace)
			continue
		}
		taken := 4
		for i := 5; i < 40; i++ {
			what := fmt.Sprint("room ", room, ", sample ", i)
			was := s.Copy()
			wanted := api.OK
			// Both what is there, less the bound, and what is to be, in the bound, must have room.
			if blocks := (taken + 1 + 2) / 3; blocks > room-5 || blocks > 5 {
				wanted = api.ErrNoSpace
			}
			want(t, what, s.Put(at("a", i, 1)), wanted)
			if wanted == api.OK {
				taken++
			} else {
				alike(t, what, s, was)
			}
			want(t, what+": Need", s.Need(), (taken+2)/3+5)
		}
		want(t, fmt.Sprint("room ", room, ": how many"), taken, 3*min(room-5, 5))
		want(t, "Abort", s.Abort(), api.OK)
		want(t, "Put behind it", s.Put(at("a", 0, 1)), api.OK)
	}
}

func TestP1502PutAsksWhetherItFits(t *testing.T) {
	// There is room enough, but not in the bound: the shards of what is to be are more than those of what is.
	to := named("to", tier("a", 1, 100, 8))
	s := empty(4096, one())
	s.Tick(50)
	s.Put(at("a", 1, 1))
	wantChange(t, "the change", s, text(to), api.OK, 0)
	want(t, "the bound", s.Shadow().Bound(), 10)
	n := 0
	for i := range 50 {
		was := s.Copy()
		e := s.Put(at("a", i, 1))
		if e == api.OK {
			n++
			continue
		}
		want(t, fmt.Sprint("sample ", i), e, api.ErrNoSpace)
		alike(t, fmt.Sprint("behind sample ", i), s, was)
	}
	want(t, "how many", n, 30)
	want(t, "what is to be needs", built(s.Shadow().Plan, s.Tiers()).Need(), 10)
	for _, k := range []int{1, 5, 3} {
		steps(s, k)
		want(t, fmt.Sprint("behind ", k, " steps more"), s.Put(at("b", 49, 1)), map[int]api.Errno{1: api.ErrNoSpace, 5: api.ErrNoSpace, 3: api.ErrNoSpace}[k])
	}
	steps(s, 1)
	want(t, "behind the cut", s.Put(at("b", 49, 1)), api.OK)
}

func TestP1502PutIsNoted(t *testing.T) {
	// ab, a and c stand in the shards 0, 1 and 2 of three.
	for done := range 6 {
		s := changing(100, done)
		x, c := s.Tiers(), s.Shadow()
		l := []api.Sample{at("ab", 252, 1), at("a", 252, 2), at("c", 252, 3), at("ab", 199, 4), at("a", 199, 5), at("c", 199, 6), at("a", 252, 7)}
		want(t, "Put", s.Put(l...), api.OK)
		x.Put(l...)
		c.Note(x, l...)
		what := fmt.Sprint("put behind ", done)
		wantTiers(t, what, s.Tiers(), x)
		wantShadow(t, what, s.Shadow(), c)
		want(t, what+": how much of raw", len(s.Shadow().Records(0)), map[bool]int{true: 7, false: 0}[done >= 1])
		steps(s, 6-done)
		wantList(t, what+": raw behind the cut", s.Tiers().Records(0), built(c.Plan, x).Records(0)...)
		wantList(t, what+": fifties behind the cut", s.Tiers().Records(1), built(c.Plan, x).Records(1)...)
	}
}

func TestP1502Tick(t *testing.T) {
	s := empty(100, web())
	for _, n := range []int{least, -100, -1} {
		want(t, fmt.Sprint("Tick of ", n), s.Tick(n), api.ErrArg)
	}
	want(t, "Tick of 0", s.Tick(0), api.OK)
	want(t, "Tick of 257", s.Tick(257), api.OK)
	want(t, "Now", s.Tiers().Now, 257)
	s.Put(at("a", 150, 1), at("a", 250, 2))
	want(t, "Tick of 3", s.Tick(3), api.OK)
	wantList(t, "raw at 260", s.Tiers().Records(0), rec("a", 250, 2))
	wantList(t, "tens at 260", s.Tiers().Records(1), rec("a", 150, 1), rec("a", 250, 2))
	was := s.Copy()
	for _, n := range []int{api.MaxTime, api.MaxTime - 259, greatest} {
		want(t, fmt.Sprint("Tick of ", n), s.Tick(n), api.ErrClock)
		alike(t, fmt.Sprint("behind Tick of ", n), s, was)
	}
	want(t, "Tick to the end", s.Tick(api.MaxTime-260), api.OK)
	want(t, "Now at the end", s.Tiers().Now, api.MaxTime)
	want(t, "Need at the end", s.Need(), 0)
	want(t, "Tick behind the end", s.Tick(1), api.ErrClock)
	want(t, "Tick of 0 at the end", s.Tick(0), api.OK)
}

func TestP1502TickTrims(t *testing.T) {
	for done := range 6 {
		for _, n := range []int{0, 1, 43, 100, 960, 9000} {
			s := changing(100, done)
			x, c := s.Tiers(), s.Shadow()
			x.Tick(n)
			c.Trim(x)
			what := fmt.Sprint("Tick of ", n, " behind ", done)
			want(t, what, s.Tick(n), api.OK)
			wantTiers(t, what, s.Tiers(), x)
			wantShadow(t, what, s.Shadow(), c)
		}
	}
	// Of an error nothing is trimmed.
	x := stocked()
	c := begun(x, fifties())
	c.Load(0, rec("a", 0, 1))
	s := made(100, x, c)
	want(t, "Tick of -1", s.Tick(-1), api.ErrArg)
	want(t, "Tick of the clock's end", s.Tick(api.MaxTime), api.ErrClock)
	wantShadow(t, "behind both", s.Shadow(), c)
	want(t, "Tick of 0", s.Tick(0), api.OK)
	wantList(t, "raw behind it", s.Shadow().Records(0))
}

func TestP1502Ask(t *testing.T) {
	for done := range 6 {
		s := changing(100, done)
		x := stocked()
		for _, series := range []string{"a", "b", "c", "z", "", "A", longest, longest + "x"} {
			for _, from := range []int{least, -1, 0, 10, 149, 150, 151, 200, 257, 300, greatest} {
				for _, to := range []int{least, -1, 0, 10, 150, 151, 250, 258, 1000, greatest} {
					what := fmt.Sprint("Ask of ", series, " from ", from, " to ", to, " behind ", done)
					a, e := s.Ask(series, from, to)
					wanted, we := x.Ask(series, from, to)
					want(t, what+": the error", e, we)
					want(t, what+": the tier", a.Tier, wanted.Tier)
					wantList(t, what, a.Records, wanted.Records...)
				}
			}
		}
	}
}

func TestP1503Change(t *testing.T) {
	for _, to := range policies() {
		s := made(100, stocked(), nil)
		want(t, "Pending", s.Pending(), false)
		wantChange(t, "to "+to.Name, s, text(to), api.OK, 0)
		want(t, "to "+to.Name+": Pending", s.Pending(), true)
		wantShadow(t, "to "+to.Name, s.Shadow(), begun(stocked(), to))
		wantTiers(t, "to "+to.Name, s.Tiers(), stocked())
	}
}

func TestP1503ChangeThatMayNotBe(t *testing.T) {
	for i, w := range wrongs() {
		for _, room := range []int{full, 100} {
			s := made(room, stocked(), nil)
			what := fmt.Sprint("the wrong text ", i, ", room ", room)
			wantChange(t, what, s, w.text, w.e, w.at)
			alike(t, what, s, made(room, stocked(), nil))
		}
		// One that is under way is told ahead of all else.
		for done := range 6 {
			s := changing(100, done)
			what := fmt.Sprint("the wrong text ", i, " behind ", done)
			wantChange(t, what, s, w.text, api.ErrPending, 0)
			alike(t, what, s, changing(100, done))
		}
		s := changing(100, 6)
		wantChange(t, fmt.Sprint("the wrong text ", i, " behind the cut"), s, w.text, w.e, w.at)
	}
	for done := range 6 {
		s := changing(100, done)
		what := fmt.Sprint("another one behind ", done)
		wantChange(t, what, s, text(web()), api.ErrPending, 0)
		alike(t, what, s, changing(100, done))
	}
}

func TestP1503ChangeAsksForRoom(t *testing.T) {
	for _, to := range policies() {
		most := begun(stocked(), to).Bound()
		for _, room := range []int{full, full + 1, full + most - 1, full + most, full + most + 1, 4096} {
			s := made(room, stocked(), nil)
			what := fmt.Sprint("to ", to.Name, ", room ", room)
			wanted := api.OK
			if room < full+most {
				wanted = api.ErrNoSpace
			}
			wantChange(t, what, s, text(to), wanted, 0)
			want(t, what+": Pending", s.Pending(), wanted == api.OK)
			if wanted != api.OK {
				alike(t, what, s, made(room, stocked(), nil))
				wantStep(t, what, s, plan.Step{}, api.ErrNone)
			}
		}
	}
	// An empty store takes a block a shard.
	for room := range 6 {
		s := empty(room, web())
		e, _ := s.Change(text(web()))
		want(t, fmt.Sprint("an empty store, room ", room), e, map[bool]api.Errno{true: api.OK, false: api.ErrNoSpace}[room >= 3])
	}
}

func TestP1503Example(t *testing.T) {
	s, e := state.New(100, text(web()))
	want(t, "New", e, api.OK)
	wantChange(t, "Change", s, text(web()), api.OK, 0)
	for i, step := range []plan.Step{{Kind: plan.Fill}, {Kind: plan.Fill, Shard: 1}, {Kind: plan.Fill, Tier: 1}, {Kind: plan.Check}, {Kind: plan.Cut}} {
		wantStep(t, fmt.Sprint("step ", i), s, step, api.OK)
	}
	wantStep(t, "behind the last one", s, plan.Step{}, api.ErrNone)
}

func TestP1503Step(t *testing.T) {
	for _, to := range policies() {
		x := stocked()
		s := made(100, x, nil)
		wantStep(t, "without a change", s, plan.Step{}, api.ErrNone)
		wantChange(t, "to "+to.Name, s, text(to), api.OK, 0)
		c := begun(x, to)
		n := c.Steps()
		for k := range n - 1 {
			what := fmt.Sprint("to ", to.Name, ": step ", k)
			wanted, _ := c.At(k)
			c.Step(x)
			wantStep(t, what, s, wanted, api.OK)
			want(t, what+": Pending", s.Pending(), true)
			wantShadow(t, what, s.Shadow(), c)
			wantTiers(t, what, s.Tiers(), x)
		}
		what := "to " + to.Name + ": the cut"
		wantStep(t, what, s, plan.Step{Kind: plan.Cut}, api.OK)
		want(t, what+": Pending", s.Pending(), false)
		want(t, what+": is a change told", s.Shadow() != nil, false)
		wantTiers(t, what, s.Tiers(), built(c.Plan, x))
		want(t, what+": Need", s.Need(), built(c.Plan, x).Need())
		for range 3 {
			was := s.Copy()
			wantStep(t, "behind the cut", s, plan.Step{}, api.ErrNone)
			want(t, "Abort behind the cut", s.Abort(), api.ErrNone)
			alike(t, "behind the cut", s, was)
		}
		wantChange(t, "back from "+to.Name, s, text(web()), api.OK, 0)
	}
}

func TestP1503OneCut(t *testing.T) {
	// Ahead of the cut all is asked of the old tiers, from it on of the new ones.
	s := changing(100, 0)
	for k := range 6 {
		a, e := s.Ask("a", 140, 300)
		want(t, fmt.Sprint("the error behind ", k), e, api.OK)
		want(t, fmt.Sprint("the tier behind ", k), a.Tier, 1)
		wantList(t, fmt.Sprint("a behind ", k), a.Records, rec("a", 140, 3, 4), rec("a", 150, 1, 2), rec("a", 160, 5), rec("a", 250, 7))
		want(t, fmt.Sprint("the policy behind ", k), s.Tiers().Policy.Name, "web")
		steps(s, 1)
	}
	a, e := s.Ask("a", 140, 300)
	want(t, "the error behind the cut", e, api.OK)
	want(t, "the tier behind the cut", a.Tier, 1)
	wantList(t, "a behind the cut", a.Records, rec("a", 150, 1, 2, 5), rec("a", 250, 7))
	wantPolicy(t, "the policy behind the cut", s.Tiers().Policy, fifties())
	wantList(t, "Floors behind the cut", s.Tiers().Floors, 150, 0)
}

func TestP1503CheckThatFindsADifference(t *testing.T) {
	x := stocked()
	for _, c := range []struct {
		tier int
		r    api.Record
	}{{0, rec("a", 201, 1)}, {0, rec("z", 257, 1)}, {1, rec("a", 250, 0)}, {1, rec("z", 0, 1)}, {1, rec("c", 5000, 1)}} {
		b := begun(x, fifties())
		for range 4 {
			b.Step(x)
		}
		b.Load(c.tier, c.r)
		s := made(100, x, b)
		what := fmt.Sprint("with ", c.r, " in tier ", c.tier)
		want(t, what+": Pending", s.Pending(), true)
		wantStep(t, what, s, plan.Step{}, api.ErrSum)
		want(t, what+": Pending behind it", s.Pending(), false)
		alike(t, what, s, made(100, stocked(), nil))
		wantStep(t, what+", once more", s, plan.Step{}, api.ErrNone)
		want(t, what+": Abort", s.Abort(), api.ErrNone)
		wantChange(t, what+": another one", s, text(fifties()), api.OK, 0)
		steps(s, 6)
		wantTiers(t, what+": behind another one", s.Tiers(), built(b.Plan, x))
	}
	// One of which something lacks is no other thing.
	for done := 1; done <= 4; done++ {
		s := made(100, x, resumed(begun(x, fifties()).Plan, bound, done))
		steps(s, 4-done)
		wantStep(t, fmt.Sprint("with nothing of the first ", done), s, plan.Step{}, api.ErrSum)
		alike(t, fmt.Sprint("with nothing of the first ", done), s, made(100, stocked(), nil))
	}
}

func TestP1503CutTakesWhatTheChangeHas(t *testing.T) {
	// Behind Check nothing is looked at any more.
	x := stocked()
	s := made(100, x, resumed(begun(x, fifties()).Plan, bound, 5))
	wantStep(t, "the cut", s, plan.Step{Kind: plan.Cut}, api.OK)
	want(t, "are there records", s.Tiers().Empty(), true)
	wantPolicy(t, "the policy", s.Tiers().Policy, fifties())
	wantList(t, "Floors", s.Tiers().Floors, 150, 0)
	want(t, "Pending", s.Pending(), false)
}

func TestP1503Abort(t *testing.T) {
	s := made(100, stocked(), nil)
	want(t, "Abort of none", s.Abort(), api.ErrNone)
	alike(t, "Abort of none", s, made(100, stocked(), nil))
	for done := range 6 {
		s := changing(100, done)
		want(t, fmt.Sprint("Pending behind ", done), s.Pending(), true)
		want(t, fmt.Sprint("Abort behind ", done), s.Abort(), api.OK)
		alike(t, fmt.Sprint("Abort behind ", done), s, made(100, stocked(), nil))
		want(t, fmt.Sprint("Abort behind ", done, ", once more"), s.Abort(), api.ErrNone)
		wantStep(t, fmt.Sprint("Abort behind ", done), s, plan.Step{}, api.ErrNone)
		// Nothing of it is left in another one.
		wantChange(t, fmt.Sprint("Change behind Abort behind ", done), s, text(fifties()), api.OK, 0)
		alike(t, fmt.Sprint("Change behind Abort behind ", done), s, changing(100, 0))
	}
	s = changing(100, 6)
	want(t, "Abort behind the cut", s.Abort(), api.ErrNone)
	want(t, "the policy behind it", s.Tiers().Policy.Name, "fifties")
}

func TestP1504TiersAndShadowAreCopies(t *testing.T) {
	for done := range 6 {
		s := changing(100, done)
		x, c := s.Tiers(), s.Shadow()
		want(t, "are they told anew", x != s.Tiers() && c != s.Shadow(), true)
		x.Tick(1)
		x.Put(at("a", 257, 9))
		x.Tick(5000)
		x.Policy.Tiers[0] = tier("z", 9, 9, 9)
		c.Load(0, rec("z", 1, 1))
		c.Load(1, rec("a", 250, 1))
		c.To.Tiers[0], c.Sources[0] = tier("z", 9, 9, 9), 9
		c.Step(stocked())
		alike(t, fmt.Sprint("behind ", done), s, changing(100, done))
	}
	s := made(100, stocked(), nil)
	want(t, "is a change told where none is", s.Shadow() != nil, false)
}

func TestP1504MakeCopies(t *testing.T) {
	x := stocked()
	c := begun(x, fifties())
	for range 2 {
		c.Step(x)
	}
	s := made(100, x, c)
	x.Put(at("a", 257, 9))
	x.Tick(5000)
	x.Policy.Tiers[0] = tier("z", 9, 9, 9)
	c.Load(0, rec("z", 1, 1))
	c.Step(stocked())
	c.To.Tiers[0], c.Sources[0] = tier("z", 9, 9, 9), 9
	alike(t, "when what was handed in changes", s, changing(100, 2))
	x, c = stocked(), begun(stocked(), fifties())
	s = made(100, x, c)
	s.Put(at("a", 257, 9))
	s.Tick(900)
	steps(s, 6)
	wantTiers(t, "what was handed in, when the store goes on", x, stocked())
	wantShadow(t, "what was handed in, when the store goes on", c, begun(stocked(), fifties()))
}

// variants are stores of which no two are the same.
func variants() []*state.State {
	l := []*state.State{nil, made(100, stocked(), nil), made(101, stocked(), nil), made(100, opened(web(), 257), nil), made(100, opened(web(), 258), nil), made(100, opened(web(), 257, 160), nil), made(100, opened(fifties(), 257), nil)}
	other := web()
	other.Name = "other"
	l = append(l, made(100, opened(other, 257), nil))
	for i := range 2 {
		x := stocked()
		x.Load(i, rec("z", 200, 1))
		l = append(l, made(100, x, nil))
	}
	p := begun(stocked(), fifties()).Plan
	for done := range 6 {
		l = append(l, made(100, stocked(), resumed(p, bound, done)))
	}
	l = append(l, made(101, stocked(), resumed(p, bound, 0)), made(100, stocked(), resumed(p, bound+1, 0)))
	other = fifties()
	other.Name = "other"
	keeps := fifties()
	keeps.Tiers[1].Keep++
	l = append(l, made(100, stocked(), resumed(plan.Plan{To: other, Sources: []int{0, 1}}, bound, 0)), made(100, stocked(), resumed(plan.Plan{To: keeps, Sources: []int{0, 1}}, bound, 0)), made(100, stocked(), resumed(plan.Plan{To: fifties(), Sources: []int{0, 0}}, bound, 0)))
	for i := range 2 {
		for _, start := range []int{200, 250} {
			c := resumed(p, bound, 0)
			c.Load(i, rec("z", start, 1))
			l = append(l, made(100, stocked(), c))
		}
	}
	c := resumed(p, bound, 0)
	c.Load(0, rec("z", 200, 1))
	c.Load(1, rec("z", 200, 1))
	return append(l, made(100, stocked(), c))
}

func TestP1504Same(t *testing.T) {
	l, o := variants(), variants()
	for i := range l {
		for k := range o {
			want(t, fmt.Sprint("are ", i, " and ", k, " the same"), l[i].Same(o[k]), i == k)
		}
	}
	for i, s := range l {
		want(t, fmt.Sprint("is ", i, " the same as itself"), s.Same(s), true)
		want(t, fmt.Sprint("is ", i, " the same as its copy"), s.Same(s.Copy()), true)
	}
	// Floors below what the policy keeps do not count, as tiers hold.
	want(t, "other floors", made(9, opened(web(), 257, 150), nil).Same(made(9, opened(web(), 257), nil)), true)
	// How it came to be does not count.
	s := empty(9, web())
	s.Tick(257)
	want(t, "made, and gone on", s.Same(made(9, opened(web(), 257), nil)), true)
}

func TestP1504Copy(t *testing.T) {
	for done := range 7 {
		s := changing(100, done)
		c := s.Copy()
		what := fmt.Sprint("a copy behind ", done)
		want(t, what+": is it another one", s != c, true)
		alike(t, what, c, s)
		c.Tick(400)
		alike(t, what+": what it was made of, behind a tick", s, changing(100, done))
		c = s.Copy()
		c.Put(at("a", 257, 9))
		c.Tick(400)
		alike(t, what+": what it was made of", s, changing(100, done))
		if done < 6 {
			c.Step()
		} else {
			c.Change(text(web()))
		}
		alike(t, what+": what it was made of, behind a step", s, changing(100, done))
		c.Abort()
		alike(t, what+": what it was made of, behind Abort", s, changing(100, done))
		c = s.Copy()
		s.Tick(1)
		alike(t, what+", when time goes on in the other one", c, changing(100, done))
		s.Put(at("a", 257, 9))
		s.Tick(400)
		if done < 6 {
			steps(s, 6-done)
		}
		alike(t, what+", when the other one goes on", c, changing(100, done))
	}
}

// model is a store as its words are: all samples that it ever took, and how far back it reaches; nothing of it is kept but that.
type model struct {
	room    int
	r       reach.Reach
	taken   []api.Sample
	pending bool
	to      plan.Plan
	bound   int
	done    int
}

// blocks tells how many blocks records take: of each tier, of each shard, a third of them.
func blocks(p api.Policy, all [][]api.Record) int {
	n := 0
	for i, x := range p.Tiers {
		count := map[int]int{}
		for _, r := range all[i] {
			count[name.Shard(r.Name, x.Shards)]++
		}
		for _, k := range count {
			n += (k + 2) / 3
		}
	}
	return n
}

// next is the reach that a change leads to.
func (m *model) next(p plan.Plan) reach.Reach { return reach.Of(p.To, m.r.Now, p.Bases(m.r)...) }

// need tells how many blocks the tiers of a reach take, that have all that was taken, and these.
func (m *model) need(r reach.Reach, l ...api.Sample) int {
	return blocks(r.Policy, view.All(r, append(slices.Clone(m.taken), l...)...))
}

// reserved tells how many blocks are kept for a change.
func (m *model) reserved() int {
	if !m.pending {
		return 0
	}
	return m.bound
}

// put takes samples.
func (m *model) put(l ...api.Sample) api.Errno {
	if len(l) == 0 {
		return api.ErrArg
	}
	if len(l) > 8 {
		return api.ErrLong
	}
	for _, s := range l {
		if e := m.r.Takes(s); e != api.OK {
			return e
		}
	}
	if m.need(m.r, l...)+m.reserved() > m.room || m.pending && m.need(m.next(m.to), l...) > m.bound {
		return api.ErrNoSpace
	}
	m.taken = append(m.taken, l...)
	return api.OK
}

// tick lets time go on.
func (m *model) tick(n int) api.Errno {
	if n < 0 {
		return api.ErrArg
	}
	if m.r.Now+n > api.MaxTime {
		return api.ErrClock
	}
	m.r.Now += n
	return api.OK
}

// change begins a change to a policy that may be.
func (m *model) change(to api.Policy) api.Errno {
	if m.pending {
		return api.ErrPending
	}
	p, e := plan.Make(m.r.Policy, m.r, to)
	if e != api.OK {
		return e
	}
	most := 2*m.need(m.next(p)) + p.Steps() - 2
	if m.need(m.r)+most > m.room {
		return api.ErrNoSpace
	}
	m.pending, m.to, m.bound, m.done = true, p, most, 0
	return api.OK
}

// step does the next step.
func (m *model) step() (plan.Step, api.Errno) {
	if !m.pending {
		return plan.Step{}, api.ErrNone
	}
	step, _ := m.to.At(m.done)
	m.done++
	if step.Kind == plan.Cut {
		m.r, m.pending = m.next(m.to), false
	}
	return step, api.OK
}

// abort ends a change.
func (m *model) abort() api.Errno {
	if !m.pending {
		return api.ErrNone
	}
	m.pending = false
	return api.OK
}

// filled tells the records of a new tier that the steps so far have filled: the shards whose fills are done.
func (m *model) filled(i int) []api.Record {
	var l []api.Record
	for _, r := range view.Tier(m.next(m.to), i, m.taken...) {
		for k := range m.done {
			if step, _ := m.to.At(k); step == (plan.Step{Kind: plan.Fill, Tier: i, Shard: name.Shard(r.Name, m.to.To.Tiers[i].Shards)}) {
				l = append(l, r)
			}
		}
	}
	return l
}

// wantModel holds a store against its model, and room against what is kept of it.
func wantModel(t *testing.T, what string, s *state.State, m *model) {
	t.Helper()
	x, c := s.Tiers(), s.Shadow()
	want(t, what+": Room", s.Room(), m.room)
	want(t, what+": Now", x.Now, m.r.Now)
	wantPolicy(t, what, x.Policy, m.r.Policy)
	wantList(t, what+": the Froms", x.All(), m.r.All()...)
	for i, l := range view.All(m.r, m.taken...) {
		wantList(t, fmt.Sprint(what, ": tier ", i), x.Records(i), l...)
	}
	want(t, what+": Pending", s.Pending(), m.pending)
	want(t, what+": Need", s.Need(), m.need(m.r)+m.reserved())
	if s.Need() > s.Room() {
		t.Errorf("%s: it needs %d, with room for %d", what, s.Need(), s.Room())
	}
	want(t, what+": is a change told", c != nil, m.pending)
	if c == nil || !m.pending {
		return
	}
	wantPolicy(t, what+": the plan", c.To, m.to.To)
	wantList(t, what+": Sources", c.Sources, m.to.Sources...)
	want(t, what+": Bound", c.Bound(), m.bound)
	want(t, what+": Done", c.Done(), m.done)
	for i := range c.To.Tiers {
		wantList(t, fmt.Sprint(what, ": tier ", i, " that is to be"), c.Records(i), m.filled(i)...)
	}
	if c.Need() > c.Bound() {
		t.Errorf("%s: the change needs %d, with a bound of %d", what, c.Need(), c.Bound())
	}
}

// wantAsked asks a store something, and holds it against the plain model of all samples.
func (r *row) wantAsked(t *testing.T, what string, s *state.State, m *model) {
	t.Helper()
	series := append(names(), "no", "No")[r.next(8)]
	from := m.r.Now - r.next(120) + 2
	to := from + r.next(100) - 3
	a, e := s.Ask(series, from, to)
	wanted, we := view.Ask(m.r, series, from, to, m.taken...)
	want(t, fmt.Sprint(what, ": Ask of ", series, " from ", from, " to ", to, ": the error"), e, we)
	want(t, fmt.Sprint(what, ": Ask of ", series, " from ", from, " to ", to, ": the tier"), a.Tier, wanted.Tier)
	wantList(t, fmt.Sprint(what, ": Ask of ", series, " from ", from, " to ", to), a.Records, wanted.Records...)
}

// goOn does some call on a store and its model; it tells what call, and what was told.
func (r *row) goOn(t *testing.T, what string, s *state.State, m *model) string {
	t.Helper()
	switch r.next(12) {
	case 0, 1, 2, 3, 4:
		l := r.samples(m.r.Now, 5+r.next(5))
		e := m.put(l...)
		want(t, fmt.Sprint(what, ": Put of ", l), s.Put(l...), e)
		return fmt.Sprint("put ", e, m.pending)
	case 5, 6:
		n := r.next(5)*r.next(5) - r.next(2)
		e := m.tick(n)
		want(t, fmt.Sprint(what, ": Tick of ", n), s.Tick(n), e)
		return fmt.Sprint("tick ", e)
	case 7:
		to := r.policy()
		e := m.change(to)
		wantChange(t, what+": Change to "+to.Name, s, text(to), e, 0)
		return fmt.Sprint("change ", e)
	case 8, 9, 10:
		step, e := m.step()
		wantStep(t, what+": Step", s, step, e)
		return fmt.Sprint("step ", step.Kind, e)
	}
	if r.next(5) > 0 {
		r.wantAsked(t, what, s, m)
		return "ask"
	}
	e := m.abort()
	want(t, what+": Abort", s.Abort(), e)
	return fmt.Sprint("abort ", e)
}

func TestP1505AllCallsAgainstTheModel(t *testing.T) {
	count := map[string]int{}
	for seed := range 250 {
		r := row(seed)
		first := r.policy()
		x := opened(first, r.next(60), r.floors(first)...)
		m := &model{room: 5 + r.next(60), r: x.Reach}
		s := made(m.room, x, nil)
		for i := range 150 {
			what := fmt.Sprint("seed ", seed, ", call ", i)
			was := s.Copy()
			call := r.goOn(t, what, s, m)
			count[call]++
			wantModel(t, what+": "+call, s, m)
			r.wantAsked(t, what, s, m)
			if call == "put 0 true" || call == "put 0 false" {
				want(t, what+": is it another one than it was", s.Same(was), false)
			}
			switch r.next(20) {
			case 0:
				s = s.Copy()
			case 1:
				s = made(s.Room(), s.Tiers(), s.Shadow())
			}
			if t.Failed() {
				return
			}
		}
	}
	for _, k := range []string{"put 0 true", "put 0 false", "put 1 true", "put 2 true", "put 20 true", "put 20 false", "put 24 true", "put 25 true", "tick 0", "tick 1", "change 0", "change 20", "change 21", "step 1 0", "step 2 0", "step 3 0", "step 0 8", "ask", "abort 0", "abort 8"} {
		want(t, fmt.Sprint("are there enough of ", k, ", which are ", count[k]), count[k] > 20, true)
	}
}

func TestP1505ManyChanges(t *testing.T) {
	// From one policy to the next, while all goes on: what is left is as if it were so from the start, down to the bases.
	changes, taken := 0, 0
	for seed := range 60 {
		r := row(seed)
		first := r.policy()
		x := opened(first, r.next(60))
		m := &model{room: 150, r: x.Reach}
		s := made(m.room, x, nil)
		for k := range 8 {
			to := r.policy()
			what := fmt.Sprint("seed ", seed, ", change ", k, " to ", to.Name)
			e := m.change(to)
			wantChange(t, what, s, text(to), e, 0)
			if e == api.OK {
				changes++
			}
			for m.pending {
				for range r.next(4) {
					l := r.samples(m.r.Now, 5)
					e := m.put(l...)
					want(t, what+": Put", s.Put(l...), e)
					n := r.next(4) * r.next(6)
					m.tick(n)
					want(t, what+": Tick", s.Tick(n), api.OK)
				}
				step, e := m.step()
				wantStep(t, what, s, step, e)
				wantModel(t, what, s, m)
			}
		}
		taken += len(m.taken)
	}
	want(t, "are there changes enough", changes > 400, true)
	want(t, "are enough of them taken", taken > 3000, true)
}

func TestP1505SumsThatDoNotFit(t *testing.T) {
	s := empty(100, web())
	s.Tick(257)
	wantChange(t, "Change", s, text(fifties()), api.OK, 0)
	for range 6 {
		want(t, "Put", s.Put(at("a", 257, greatest), at("a", 251, greatest)), api.OK)
		steps(s, 1)
	}
	a, e := s.Ask("a", 0, 300)
	want(t, "the error", e, api.OK)
	want(t, "how many", len(a.Records), 1)
	n, over := agg.Sum(a.Records[0].Agg)
	want(t, "the sum", n, greatest)
	want(t, "does it not fit", over, true)
	want(t, "how many values", a.Records[0].Agg.Count, 12)
}

func TestP1505NilAndZeroState(t *testing.T) {
	var none *state.State
	zero := &state.State{}
	for what, s := range map[string]*state.State{"nil": none, "zero": zero, "a zero one's copy": zero.Copy()} {
		for range 2 {
			want(t, what+": Put", s.Put(at("a", 0, 1)), api.ErrArg)
			want(t, what+": Put of nothing", s.Put(), api.ErrArg)
			want(t, what+": Put of too many", s.Put(make([]api.Sample, 9)...), api.ErrArg)
			want(t, what+": Tick", s.Tick(1), api.ErrArg)
			want(t, what+": Tick of the clock's end", s.Tick(greatest), api.ErrArg)
			a, e := s.Ask("a", 0, 1)
			want(t, what+": Ask", e, api.ErrArg)
			want(t, what+": Ask: the tier", a.Tier, 0)
			wantList(t, what+": Ask: the records", a.Records)
			wantChange(t, what, s, text(web()), api.ErrArg, 0)
			wantChange(t, what+", a wrong text", s, "x", api.ErrArg, 0)
			wantStep(t, what, s, plan.Step{}, api.ErrArg)
			want(t, what+": Abort", s.Abort(), api.ErrArg)
			want(t, what+": Pending", s.Pending(), false)
			want(t, what+": are there tiers", s.Tiers() != nil, false)
			want(t, what+": is there a change", s.Shadow() != nil, false)
			want(t, what+": Room", s.Room(), 0)
			want(t, what+": Need", s.Need(), 0)
			for _, o := range []*state.State{none, zero} {
				want(t, what+": Same of another such one", s.Same(o), true)
			}
			for _, o := range []*state.State{empty(0, web()), made(0, &tiers.Tiers{}, nil)} {
				want(t, what+": Same of one that is there", s.Same(o), false)
				want(t, what+": Same of one that is there, the other way", o.Same(s), false)
			}
		}
	}
	want(t, "is there a copy of nil", none.Copy() != nil, false)
}

// wantApart wants texts to share no bytes with others.
func wantApart(t *testing.T, what string, l []string, others ...string) {
	t.Helper()
	want(t, what+": are there any", len(l) > 0 && len(others) > 0, true)
	for _, r := range l {
		for _, s := range others {
			from, to := uintptr(unsafe.Pointer(unsafe.StringData(r))), uintptr(unsafe.Pointer(unsafe.StringData(s)))
			if from < to+uintptr(len(s)) && to < from+uintptr(len(r)) {
				t.Errorf("%s: %q and %q share their bytes", what, r, s)
			}
		}
	}
}

// texts are all names of a policy, and of the records of its tiers.
func texts(p api.Policy, records func(tier int) []api.Record) []string {
	l := []string{p.Name}
	for i, x := range p.Tiers {
		l = append(l, x.Name)
		for _, r := range records(i) {
			l = append(l, r.Name)
		}
	}
	return l
}

// counting are all names of tiers.
func counting(x *tiers.Tiers) []string { return texts(x.Policy, x.Records) }

// planned are all names of a change.
func planned(c *shadow.Shadow) []string { return texts(c.To, c.Records) }

func TestTextsAreKeptApart(t *testing.T) {
	first, second := strings.Clone(text(web())), strings.Clone(text(fifties()))
	series := strings.Clone("cpu disk")
	s, e := state.New(100, first)
	want(t, "New", e, api.OK)
	s.Tick(257)
	s.Put(at(series[:3], 257, 1), at(series[4:], 256, 1))
	wantApart(t, "the tiers and what they were made of", counting(s.Tiers()), first, series)
	s.Change(second)
	steps(s, 3)
	s.Put(at(series[:3], 250, 1), at(series[4:], 250, 1))
	wantApart(t, "the change and what it was made of", planned(s.Shadow()), first, second, series)
	wantApart(t, "the tiers, told twice", counting(s.Tiers()), counting(s.Tiers())...)
	wantApart(t, "the change, told twice", planned(s.Shadow()), planned(s.Shadow())...)
	wantApart(t, "the change and the tiers", planned(s.Shadow()), counting(s.Tiers())...)
	a, _ := s.Ask(series[:3], 200, 300)
	b, _ := s.Ask(series[:3], 200, 300)
	wantApart(t, "an answer and what was asked", []string{a.Records[0].Name}, series, b.Records[0].Name)
	wantApart(t, "an answer and what was told", []string{a.Records[0].Name}, counting(s.Tiers())...)
	steps(s, 3)
	wantApart(t, "the new tiers and what they were made of", counting(s.Tiers()), first, second, series)
	x, c := stocked(), begun(stocked(), fifties())
	c.Load(0, rec(series[:3], 200, 1))
	y := made(100, x, c)
	wantApart(t, "the parts, and what was handed in", append(counting(y.Tiers()), planned(y.Shadow())...), append(counting(x), planned(c)...)...)
}

func TestAnswersOwnTheirMemory(t *testing.T) {
	s := changing(100, 3)
	was := s.Copy()
	a, _ := s.Ask("a", 140, 300)
	a.Records[0] = rec("z", 0, 9)
	_ = append(a.Records[:1], rec("z", 1, 9))
	alike(t, "when an answer changes", s, was)
	l := []api.Sample{at("b", 257, 1), at("a", 257, 2)}
	want(t, "Put", s.Put(l...), api.OK)
	wantList(t, "what was put", l, at("b", 257, 1), at("a", 257, 2))
	was = s.Copy()
	l[0] = at("z", 1, 1)
	alike(t, "when what was put changes", s, was)
	x := s.Tiers()
	steps(s, 3)
	wantTiers(t, "what was told, behind the cut", x, was.Tiers())
	y := s.Tiers()
	s.Put(at("c", 257, 1))
	wantTiers(t, "what was told, when more is put", y, func() *tiers.Tiers { steps(was, 3); return was.Tiers() }())
}

func TestAFullStore(t *testing.T) {
	// As many records as blocks may have: 3 times 4096.
	x := opened(named("p", tier("a", 1, 20000, 1)), 20000)
	var l []api.Record
	for i := range 3 * 4096 {
		l = append(l, rec(fmt.Sprint("s", i%7), 1+i, 1))
	}
	want(t, "Load", x.Load(0, l...), len(l))
	s := made(4096, x, nil)
	want(t, "Need", s.Need(), 4096)
	for i := range 20 {
		want(t, "Put of more", s.Put(at("s0", 20000-i, 1)), api.ErrNoSpace)
		want(t, "Put of what stands there", s.Put(at("s0", 1, 1), at("s1", 2, 1)), api.OK)
	}
	wantChange(t, "Change", s, text(one()), api.ErrNoSpace, 0)
	want(t, "Tick", s.Tick(3), api.OK)
	want(t, "Need behind it", s.Need(), 4096)
	want(t, "Tick once more", s.Tick(1), api.OK)
	want(t, "Need behind that", s.Need(), 4095)
	want(t, "Put behind that", s.Put(at("s0", 20000, 1)), api.OK)
	// Twice a thousand blocks and one: to the same policy there is just room.
	want(t, "Tick of more", s.Tick(8100), api.OK)
	n := s.Need()
	wantChange(t, "Change where there is room", s, text(named("q", tier("a", 1, 20000, 1))), map[bool]api.Errno{true: api.OK, false: api.ErrNoSpace}[3*n+1 <= 4096], 0)
	for s.Pending() {
		steps(s, 1)
	}
	want(t, "Need behind the change", s.Need(), n)
}

func TestReadme(t *testing.T) {
	s, e := state.New(100, text(web()))
	want(t, "New", e, api.OK)
	want(t, "Tick", s.Tick(257), api.OK)
	want(t, "Put", s.Put(at("cpu", 160, 4), at("cpu", 199, 6), at("cpu", 210, 5)), api.OK)
	wantChange(t, "Change", s, text(fifties()), api.OK, 0)
	want(t, "Need", s.Need(), 10)
	want(t, "what the tiers need", s.Tiers().Need(), 2)
	wantStep(t, "the first one", s, plan.Step{Kind: plan.Fill}, api.OK)
	want(t, "Put", s.Put(at("cpu", 257, 7)), api.OK)
	a, e := s.Ask("cpu", 150, 300)
	want(t, "Ask", e, api.OK)
	want(t, "the tier", a.Tier, 0)
	wantList(t, "the answer", a.Records, rec("cpu", 160, 4), rec("cpu", 199, 6), rec("cpu", 210, 5), rec("cpu", 257, 7))
	for s.Pending() {
		_, e = s.Step()
		want(t, "Step", e, api.OK)
	}
	a, e = s.Ask("cpu", 150, 300)
	want(t, "Ask behind the cut", e, api.OK)
	want(t, "the tier behind the cut", a.Tier, 1)
	wantList(t, "the answer behind the cut", a.Records, rec("cpu", 150, 4, 6), rec("cpu", 200, 5), rec("cpu", 250, 7))
	same := made(s.Room(), s.Tiers(), s.Shadow())
	want(t, "is it the same store again", same.Same(s), true)
}
