package tiers_test

import (
	"cmp"
	"fmt"
	"hash/fnv"
	"math"
	"slices"
	"strings"
	"testing"
	"unsafe"

	"sediment/agg"
	"sediment/api"
	"sediment/reach"
	"sediment/table"
	"sediment/tiers"
)

const (
	least    = math.MinInt
	greatest = math.MaxInt
	longest  = "fifteen.bytes-_" // a name of as many bytes as it may have
)

// want holds an answer against what is wanted.
func want[T comparable](t *testing.T, what string, got, wanted T) {
	t.Helper()
	if got != wanted {
		t.Errorf("%s: %v, not %v", what, got, wanted)
	}
}

// wantList holds a list against what is wanted; nil and empty ones are one.
func wantList[T comparable](t *testing.T, what string, got []T, wanted ...T) {
	t.Helper()
	if !slices.Equal(got, wanted) {
		t.Errorf("%s: %v, not %v", what, got, wanted)
	}
}

// named is a policy of that name and those tiers.
func named(s string, l ...api.Tier) api.Policy { return api.Policy{Name: s, Tiers: l} }

// tier is a tier.
func tier(s string, every, keep, shards int) api.Tier {
	return api.Tier{Name: s, Every: every, Keep: keep, Shards: shards}
}

// web is the policy of chapter 8.
func web() api.Policy { return named("web", tier("raw", 1, 100, 2), tier("tens", 10, 1000, 1)) }

// small is a policy whose tiers soon give up what they have.
func small() api.Policy {
	return named("small", tier("a", 1, 3, 1), tier("b", 2, 5, 3), tier("c", 6, 12, 2))
}

// policies are policies of one to five tiers.
func policies() []api.Policy {
	return []api.Policy{
		web(), small(), named("one", tier("a", 1, 1, 1)), named("p", tier("a", 1, 7, 8)), named("p", tier("a", 1, 4, 2), tier("b", 3, 4, 1)),
		named("p", tier("a", 1, 2, 1), tier("b", 2, 2, 1), tier("c", 4, 9, 2), tier("d", 8, 16, 3), tier("e", 24, 40, 4)),
		named("p", tier("a", 1, 1, 3), tier("b", 1000000, 1000000, 1)),
	}
}

// of is empty tiers of a policy at a time.
func of(p api.Policy, now int, floors ...int) *tiers.Tiers {
	x, e := tiers.New(p, now, floors...)
	if e != api.OK {
		panic(fmt.Sprint("New of ", p, now, floors, ": ", e))
	}
	return x
}

// at is a sample.
func at(s string, time, v int) api.Sample { return api.Sample{Name: s, Time: time, Value: v} }

// rec is the record of these values.
func rec(s string, start int, v ...int) api.Record {
	return api.Record{Name: s, Start: start, Agg: agg.Of(v...)}
}

// shard is the shard of a name, by a hash of the library's.
func shard(s string, shards int) int {
	h := fnv.New32a()
	h.Write([]byte(s))
	return int(h.Sum32()) % shards
}

// isName tells whether s may be a name.
func isName(s string) bool {
	return len(s) >= 1 && len(s) <= 15 && strings.Trim(s, "abcdefghijklmnopqrstuvwxyz0123456789._-") == ""
}

// model is tiers as a policy, a time, and all that ever came: what they have is worked out when it is asked.
type model struct {
	p      api.Policy
	now    int
	floors []int
	put    []api.Sample
	loaded [][]api.Record // by tier
}

// modelOf is the model of empty tiers.
func modelOf(p api.Policy, now int, floors ...int) *model {
	return &model{p: p, now: now, floors: floors, loaded: make([][]api.Record, len(p.Tiers))}
}

// from tells how far back a tier reaches.
func (m *model) from(i int) int {
	l := m.p.Tiers
	grain := l[min(i+1, len(l)-1)].Every
	back := m.now - l[i].Keep
	back = max(back-((back%grain)+grain)%grain, 0)
	if i < len(m.floors) {
		back = max(back, m.floors[i])
	}
	return back
}

// froms tells how far back each tier reaches.
func (m *model) froms() []int {
	var l []int
	for i := range m.p.Tiers {
		l = append(l, m.from(i))
	}
	return l
}

// takes tells what Put is to tell of these samples.
func (m *model) takes(l ...api.Sample) api.Errno {
	if len(l) == 0 {
		return api.ErrArg
	}
	if len(l) > 8 {
		return api.ErrLong
	}
	for _, s := range l {
		if !isName(s.Name) || s.Time < 0 {
			return api.ErrArg
		}
		if s.Time > m.now {
			return api.ErrFuture
		}
		if s.Time < m.from(0) {
			return api.ErrOld
		}
	}
	return api.OK
}

// add puts samples, if they may come.
func (m *model) add(l ...api.Sample) api.Errno {
	e := m.takes(l...)
	if e == api.OK {
		m.put = append(m.put, l...)
	}
	return e
}

// tick lets time go on.
func (m *model) tick(n int) api.Errno {
	if n < 0 {
		return api.ErrArg
	}
	if n > 1<<40 || m.now+n > 1<<40 {
		return api.ErrClock
	}
	m.now += n
	return api.OK
}

// load puts records to a tier, and tells how many.
func (m *model) load(i int, l ...api.Record) int {
	if i < 0 || i >= len(m.p.Tiers) {
		return 0
	}
	n := 0
	for _, r := range l {
		a := r.Agg
		may := isName(r.Name) && r.Start >= 0 && r.Start%m.p.Tiers[i].Every == 0 && a.Count >= 1 && a.Count <= 1<<62 && a.Min <= a.Max
		if may && r.Start >= m.from(i) {
			m.loaded[i] = append(m.loaded[i], r)
			n++
		}
	}
	return n
}

// records tells what a tier has: of all that came the Merge of each bucket that is not below its From.
func (m *model) records(i int) []api.Record {
	type bucket struct {
		name  string
		start int
	}
	all := map[bucket]api.Agg{}
	merge := func(s string, start int, a api.Agg) {
		if start >= m.from(i) {
			all[bucket{s, start}] = agg.Merge(all[bucket{s, start}], a)
		}
	}
	for _, s := range m.put {
		merge(s.Name, s.Time-s.Time%m.p.Tiers[i].Every, agg.Of(s.Value))
	}
	for _, r := range m.loaded[i] {
		merge(r.Name, r.Start, r.Agg)
	}
	var l []api.Record
	for b, a := range all {
		l = append(l, api.Record{Name: b.name, Start: b.start, Agg: a})
	}
	slices.SortFunc(l, func(a, b api.Record) int {
		return cmp.Or(strings.Compare(a.Name, b.Name), cmp.Compare(a.Start, b.Start))
	})
	return l
}

// ask tells what Ask is to tell.
func (m *model) ask(s string, from, to int) (api.Answer, api.Errno) {
	if !isName(s) || from < 0 || to < from {
		return api.Answer{}, api.ErrArg
	}
	a := api.Answer{Tier: len(m.p.Tiers) - 1}
	for i := range m.p.Tiers {
		if m.from(i) <= from {
			a.Tier = i
			break
		}
	}
	for _, r := range m.records(a.Tier) {
		if r.Name == s && r.Start >= from && r.Start < to {
			a.Records = append(a.Records, r)
		}
	}
	return a, api.OK
}

// need tells how many blocks it takes: each third record of a shard, from the first one on, begins one.
func (m *model) need() int {
	n := 0
	for i, x := range m.p.Tiers {
		has := map[int]int{}
		for _, r := range m.records(i) {
			k := shard(r.Name, x.Shards)
			if has[k]%3 == 0 {
				n++
			}
			has[k]++
		}
	}
	return n
}

// length tells how many records there are.
func (m *model) length() int {
	n := 0
	for i := range m.p.Tiers {
		n += len(m.records(i))
	}
	return n
}

// wantAsk holds what Ask tells against the model.
func wantAsk(t *testing.T, what string, x *tiers.Tiers, m *model, s string, from, to int) {
	t.Helper()
	a, e := x.Ask(s, from, to)
	b, wanted := m.ask(s, from, to)
	if e != wanted || a.Tier != b.Tier || !slices.Equal(a.Records, b.Records) {
		t.Errorf("%s: Ask(%q, %d, %d): %v, %d, not %v, %d", what, s, from, to, a, e, b, wanted)
	}
}

// wantSame holds all that tells what tiers have against the model.
func wantSame(t *testing.T, what string, x *tiers.Tiers, m *model) {
	t.Helper()
	want(t, what+": Now", x.Now, m.now)
	want(t, what+": the policy's name", x.Policy.Name, m.p.Name)
	wantList(t, what+": the policy's tiers", x.Policy.Tiers, m.p.Tiers...)
	wantList(t, what+": the Froms", x.All(), m.froms()...)
	for i, tier := range m.p.Tiers {
		wantList(t, fmt.Sprint(what, ": Records ", i), x.Records(i), m.records(i)...)
		own := x.Table(i)
		want(t, fmt.Sprint(what, ": Table ", i, ": Every"), own.Every(), tier.Every)
		wantList(t, fmt.Sprint(what, ": Table ", i), own.All(), m.records(i)...)
	}
	for _, i := range []int{least, -1, len(m.p.Tiers), 9, greatest} {
		wantList(t, fmt.Sprint(what, ": Records ", i), x.Records(i))
		want(t, fmt.Sprint(what, ": Table ", i), x.Table(i), nil)
	}
	want(t, what+": Need", x.Need(), m.need())
	want(t, what+": Len", x.Len(), m.length())
	want(t, what+": Empty", x.Empty(), m.length() == 0)
}

// wantNew holds what New tells of what may be against the model, and of what may not be against an error.
func wantNew(t *testing.T, wanted api.Errno, p api.Policy, now int, floors ...int) {
	t.Helper()
	what := fmt.Sprint("New of ", p, now, floors)
	x, e := tiers.New(p, now, floors...)
	want(t, what+": the error", e, wanted)
	want(t, what+": is there one", x != nil, wanted == api.OK)
	if x != nil {
		wantSame(t, what, x, modelOf(p, now, floors...))
	}
}

func TestP1101New(t *testing.T) {
	for _, p := range policies() {
		for _, now := range []int{0, 1, 5, 100, 257, 1000000, 1<<40 - 1, 1 << 40} {
			wantNew(t, api.OK, p, now)
			var floors, zeros []int
			for _, x := range p.Tiers {
				floors, zeros = append(floors, 3*x.Every), append(zeros, 0)
				wantNew(t, api.OK, p, now, floors...)
				wantNew(t, api.OK, p, now, zeros...)
			}
			wantNew(t, api.ErrArg, p, now, append(floors, 0)...)
			wantNew(t, api.ErrArg, p, now, append(zeros, 0)...)
			wantNew(t, api.ErrArg, p, now, append(zeros, 0, 0, 0, 0)...)
		}
		for _, now := range []int{least, -1, 1<<40 + 1, greatest} {
			wantNew(t, api.ErrArg, p, now)
		}
	}
}

func TestP1101NewOfAPolicyThatMayNotBe(t *testing.T) {
	wrong := []api.Policy{{}, named("p"), named("P", tier("a", 1, 1, 1)), named("", tier("a", 1, 1, 1)), named("p", tier("a", 2, 9, 1)), named("p", tier("a", 1, 0, 1)), named("p", tier("a", 1, 1, 9)),
		named("p", tier("a", 1, 1000001, 1)), named("p", tier("a", 1, 1, 1), tier("a", 2, 2, 1)), named("p", tier("a", 1, 9, 1), tier("b", 2, 8, 1)), named("p", tier("a", 1, 9, 1), tier("b", 2, 9, 1), tier("c", 3, 9, 1)), named("p", make([]api.Tier, 6)...)}
	for _, p := range wrong {
		wantNew(t, api.ErrRule, p, 0)
		// The policy's error is told ahead of the others.
		wantNew(t, api.ErrRule, p, -1)
		wantNew(t, api.ErrRule, p, greatest, -1)
		wantNew(t, api.ErrRule, p, 0, 1, 2, 3, 4, 5, 6, 7)
	}
}

func TestP1101NewFloors(t *testing.T) {
	p := small()
	for a := -2; a < 8; a++ {
		wantNew(t, map[bool]api.Errno{true: api.OK, false: api.ErrArg}[a >= 0], p, 5, a)
		for b := -4; b < 8; b++ {
			for c := -12; c <= 14; c++ {
				e := api.OK
				if a < 0 || b < 0 || c < 0 || b%2 != 0 || c%6 != 0 {
					e = api.ErrArg
				}
				wantNew(t, e, p, 20, a, b, c)
			}
		}
	}
	// A floor may be of a time that has not come, however far.
	wantNew(t, api.OK, p, 0, greatest, greatest-1, greatest-1-(greatest-1)%6)
	wantNew(t, api.ErrArg, p, 0, greatest, greatest)
	wantNew(t, api.ErrArg, p, 0, least)
	wantNew(t, api.ErrArg, p, 0, 0, least)
	wantNew(t, api.ErrArg, p, 0, 0, 0, least+2)
}

func TestP1101NewKeepsWhatIsItsOwn(t *testing.T) {
	p, floors := web(), []int{7, 20}
	x := of(p, 25, floors...)
	p.Tiers[0].Keep, p.Tiers[1], floors[0], floors[1] = 1, tier("z", 5, 5, 5), 24, 30
	wantSame(t, "what was handed in changes", x, modelOf(web(), 25, 7, 20))
	p, floors = web(), []int{7, 20}
	y := of(p, 25, floors...)
	y.Put(at("a", 25, 1))
	y.Tick(500)
	y.Policy.Tiers[0].Keep, y.Floors[0] = 1, 9
	want(t, "what was handed in: the keep", p.Tiers[0].Keep, 100)
	wantList(t, "what was handed in: the floors", floors, 7, 20)
}

func TestP1101Example(t *testing.T) {
	x := of(web(), 25)
	want(t, "Put", x.Put(at("a", 21, 4), at("a", 25, 6)), api.OK)
	a, e := x.Ask("a", 20, 30)
	want(t, "Ask: the error", e, api.OK)
	want(t, "Ask: the tier", a.Tier, 0)
	wantList(t, "Ask", a.Records, rec("a", 21, 4), rec("a", 25, 6))
	wantList(t, "the tens", x.Records(1), rec("a", 20, 4, 6))
}

// wantPut holds what Put tells against the model, which does the same, and what is there behind it.
func wantPut(t *testing.T, what string, x *tiers.Tiers, m *model, l ...api.Sample) {
	t.Helper()
	what = fmt.Sprint(what, ": Put ", l)
	was := slices.Clone(l)
	want(t, what, x.Put(l...), m.add(l...))
	wantSame(t, what, x, m)
	wantList(t, what+": what was handed in", l, was...)
}

func TestP1101PutOfHowMany(t *testing.T) {
	x, m := of(web(), 9), modelOf(web(), 9)
	wantPut(t, "none", x, m)
	want(t, "Put of a nil list", x.Put([]api.Sample(nil)...), api.ErrArg)
	want(t, "Put of an empty list", x.Put([]api.Sample{}...), api.ErrArg)
	var l []api.Sample
	for i := range 20 {
		l = append(l, at("a", i%10, i))
		wantPut(t, fmt.Sprint(i+1), x, m, l...)
	}
	want(t, "how many were taken", len(m.put), 36)
	// Too many are told ahead of what is wrong with each.
	wantPut(t, "nine wrong ones", x, m, make([]api.Sample, 9)...)
	want(t, "nine wrong ones", x.Put(make([]api.Sample, 9)...), api.ErrLong)
	want(t, "eight wrong ones", x.Put(make([]api.Sample, 8)...), api.ErrArg)
}

func TestP1101PutOfTheWrong(t *testing.T) {
	now := 57
	good := []api.Sample{at("a", 54, 4), at(longest, 57, -5), at("b", 54, 6)}
	wrong := []struct {
		s api.Sample
		e api.Errno
	}{
		{api.Sample{}, api.ErrArg}, {at("", 55, 1), api.ErrArg}, {at("A", 55, 1), api.ErrArg}, {at("a b", 55, 1), api.ErrArg}, {at(longest+"x", 55, 1), api.ErrArg}, {at("é", 55, 1), api.ErrArg}, {at("a\x00", 55, 1), api.ErrArg},
		{at("a", -1, 1), api.ErrArg}, {at("a", least, 1), api.ErrArg}, {at("A", 58, 1), api.ErrArg}, {at("A", 0, 1), api.ErrArg},
		{at("a", 58, 1), api.ErrFuture}, {at("a", 1<<40, 1), api.ErrFuture}, {at("a", greatest, 1), api.ErrFuture},
		{at("a", 53, 1), api.ErrOld}, {at("a", 52, 1), api.ErrOld}, {at("a", 0, 1), api.ErrOld},
	}
	for _, c := range wrong {
		what := fmt.Sprint("Put with ", c.s)
		x, m := of(small(), now), modelOf(small(), now)
		want(t, what+" alone", x.Put(c.s), c.e)
		wantSame(t, what+" alone", x, m)
		m.add(good...)
		want(t, what+": the good ones", x.Put(good...), api.OK)
		// Wherever it stands, of those beside it nothing is put.
		for i := range len(good) + 1 {
			l := slices.Insert(slices.Clone(good), i, c.s)
			want(t, fmt.Sprint(what, " at ", i), x.Put(l...), c.e)
			wantSame(t, fmt.Sprint(what, " at ", i), x, m)
		}
		for _, d := range wrong {
			want(t, fmt.Sprint(what, " ahead of ", d.s), x.Put(good[0], c.s, good[1], d.s), c.e)
		}
		wantSame(t, what+" ahead of others", x, m)
	}
}

func TestP1101PutToEachTier(t *testing.T) {
	for _, p := range policies() {
		for _, now := range []int{0, 1, 7, 30, 57, 257} {
			x, m := of(p, now), modelOf(p, now)
			for time := -1; time <= now+1; time++ {
				for _, l := range [][]api.Sample{{at("a", time, time)}, {at("b", time, 1), at("a", time, greatest), at("b", time, 3)}} {
					want(t, fmt.Sprint("Put ", l, " at ", now), x.Put(l...), m.add(l...))
				}
			}
			wantSame(t, fmt.Sprint("all times of ", p, " at ", now), x, m)
			want(t, "there is something", x.Empty(), false)
		}
	}
}

func TestP1101PutAboveFloors(t *testing.T) {
	for a := 8; a <= 20; a += 3 {
		for b := 0; b <= 24; b += 2 {
			for c := 0; c <= 24; c += 6 {
				x, m := of(small(), 18, a, b, c), modelOf(small(), 18, a, b, c)
				for time := range 20 {
					want(t, fmt.Sprint("Put at ", time), x.Put(at("a", time, time)), m.add(at("a", time, time)))
				}
				wantSame(t, fmt.Sprint("floors ", a, b, c), x, m)
			}
		}
	}
	// The bucket that begins below a floor is not there, not even with what came above the floor.
	x := of(web(), 29, 15, 20)
	want(t, "Put below the floor", x.Put(at("a", 14, 1)), api.ErrOld)
	want(t, "Put above it", x.Put(at("a", 15, 1), at("a", 19, 2), at("a", 20, 4)), api.OK)
	wantList(t, "the first tier", x.Records(0), rec("a", 15, 1), rec("a", 19, 2), rec("a", 20, 4))
	wantList(t, "the second tier", x.Records(1), rec("a", 20, 4))
	// All may be told by the finest tier, though the others have nothing yet.
	x = of(web(), 29, 0, 1000)
	want(t, "Put below the other floor", x.Put(at("a", 14, 1)), api.OK)
	wantList(t, "the second tier", x.Records(1))
}

func TestP1101PutOfAnyValue(t *testing.T) {
	x, m := of(web(), 9), modelOf(web(), 9)
	for _, v := range []int{0, 1, -1, greatest, greatest, 5, least, least, least, -7} {
		wantPut(t, "a value", x, m, at("a", 3, v))
	}
	x.Put(at("b", 3, greatest), at("b", 3, 1))
	want(t, "what does not go into an int", x.Records(1)[1], rec("b", 0, greatest, 1))
}

// wantTick holds what Tick tells against the model, which does the same, and what is there behind it.
func wantTick(t *testing.T, what string, x *tiers.Tiers, m *model, n int) {
	t.Helper()
	what = fmt.Sprint(what, ": Tick ", n)
	want(t, what, x.Tick(n), m.tick(n))
	wantSame(t, what, x, m)
}

func TestP1102Tick(t *testing.T) {
	for _, p := range policies() {
		for step := range 9 {
			x, m := of(p, 0), modelOf(p, 0)
			for i := range 30 {
				what := fmt.Sprint("steps of ", step, " of ", p)
				time := max(m.now-i%3, 0)
				want(t, what+": Put", x.Put(at("a", time, i), at("b", m.now, i)), m.add(at("a", time, i), at("b", m.now, i)))
				wantTick(t, what, x, m, step)
			}
		}
	}
}

func TestP1102TickDropsJustBelowTheFroms(t *testing.T) {
	x := of(web(), 25)
	x.Put(at("a", 0, 1), at("a", 9, 2), at("a", 10, 3), at("b", 5, 4))
	fine := []api.Record{rec("a", 0, 1), rec("a", 9, 2), rec("a", 10, 3), rec("b", 5, 4)}
	tens := []api.Record{rec("a", 0, 1, 2), rec("a", 10, 3), rec("b", 0, 4)}
	steps := []struct{ now, fine, tens int }{{25, 0, 0}, {109, 0, 0}, {110, 2, 0}, {119, 2, 0}, {120, 4, 0}, {1009, 4, 0}, {1010, 4, 1}, {1019, 4, 1}, {1020, 4, 3}, {5000, 4, 3}}
	for _, c := range steps {
		want(t, fmt.Sprint("Tick to ", c.now), x.Tick(c.now-x.Now), api.OK)
		switch c.fine {
		case 2:
			wantList(t, fmt.Sprint("raw at ", c.now), x.Records(0), fine[2])
		default:
			wantList(t, fmt.Sprint("raw at ", c.now), x.Records(0), fine[c.fine:]...)
		}
		switch c.tens {
		case 1:
			wantList(t, fmt.Sprint("tens at ", c.now), x.Records(1), tens[1])
		default:
			wantList(t, fmt.Sprint("tens at ", c.now), x.Records(1), tens[c.tens:]...)
		}
	}
	want(t, "Empty", x.Empty(), true)
}

func TestP1102TickOfTheWrong(t *testing.T) {
	for _, now := range []int{0, 1, 257, 1<<40 - 1, 1 << 40} {
		x, m := of(web(), now), modelOf(web(), now)
		wantPut(t, "at it", x, m, at("a", now, 1))
		for _, n := range []int{-1, -2, -now, -now - 1, least, 1<<40 - now + 1, 1<<40 + 1, greatest, greatest - now, greatest - now + 1} {
			if n != 0 {
				wantTick(t, fmt.Sprint("at ", now), x, m, n)
			}
		}
		want(t, "below 0", x.Tick(-1), api.ErrArg)
		want(t, "the least", x.Tick(least), api.ErrArg)
		want(t, "beyond the end", x.Tick(1<<40-now+1), api.ErrClock)
		want(t, "the greatest", x.Tick(greatest), api.ErrClock)
		wantTick(t, fmt.Sprint("at ", now), x, m, 0)
		wantTick(t, fmt.Sprint("to the end from ", now), x, m, 1<<40-now)
		want(t, "one more", x.Tick(1), api.ErrClock)
		wantTick(t, "none more", x, m, 0)
	}
}

func TestP1102TickAtAFloor(t *testing.T) {
	x, m := of(small(), 0, 10, 8, 12), modelOf(small(), 0, 10, 8, 12)
	for range 40 {
		wantTick(t, "at a floor", x, m, 1)
		x.Put(at("a", x.Now, 1))
		m.add(at("a", m.now, 1))
		wantSame(t, "at a floor", x, m)
	}
}

// wrongAggs are aggregates that may not be.
func wrongAggs() []api.Agg {
	return []api.Agg{{}, {Count: 0, Min: 1, Max: 2}, {Count: -1, Min: 1, Max: 1}, {Count: 1<<62 + 1}, {Count: 1, Lo: 2, Min: 2, Max: 1}}
}

// wantLoad holds what Load tells against the model, which does the same, and what is there behind it.
func wantLoad(t *testing.T, what string, x *tiers.Tiers, m *model, tier int, l ...api.Record) {
	t.Helper()
	what = fmt.Sprint(what, ": Load ", tier, l)
	was := slices.Clone(l)
	want(t, what, x.Load(tier, l...), m.load(tier, l...))
	wantSame(t, what, x, m)
	wantList(t, what+": what was handed in", l, was...)
}

func TestP1102Load(t *testing.T) {
	for _, p := range policies() {
		for _, now := range []int{0, 8, 57} {
			x, m := of(p, now), modelOf(p, now)
			for _, i := range []int{0, 1, 2, 3, 4, 5, 9, -1, least, greatest} {
				var all []api.Record
				for start := -1; start < now+9; start++ {
					all = append(all, rec("a", start, start, 1), rec("b", start, 5))
				}
				what := fmt.Sprint("at ", now)
				for _, r := range all[len(all)/2:] {
					wantLoad(t, what, x, m, i, r)
				}
				// More at once than samples may come, and to what is there.
				wantLoad(t, what, x, m, i, all...)
				wantLoad(t, what, x, m, i)
			}
			wantTick(t, "behind the Load", x, m, 11)
		}
	}
}

func TestP1102LoadOfTheWrong(t *testing.T) {
	x, m := of(web(), 257), modelOf(web(), 257)
	wantLoad(t, "the right ones", x, m, 0, rec("a", 150, 1), rec(longest, 257, 2), rec("a", 258, 3), rec("a", greatest, 4))
	wantLoad(t, "the right ones", x, m, 1, rec("a", 0, 1), rec("a", 260, 3), rec("z", greatest-7, 4))
	want(t, "how many are there", x.Len(), 7)
	var wrong []api.Record
	for _, s := range []string{"", "A", "a b", longest + "x", "é"} {
		wrong = append(wrong, rec(s, 200, 1))
	}
	for _, start := range []int{least, -10, -1, 149, 140, 0} {
		wrong = append(wrong, rec("a", start, 1))
	}
	for _, a := range wrongAggs() {
		wrong = append(wrong, api.Record{Name: "a", Start: 200, Agg: a})
	}
	for i, r := range wrong {
		want(t, fmt.Sprint("Load of ", r), x.Load(0, r), 0)
		wantSame(t, fmt.Sprint("Load of ", r), x, m)
		// Those beside it are put.
		wantLoad(t, "among others", x, m, 0, rec("b", 150+i, 1), r, rec("b", 151+i, 1))
	}
	want(t, "Load of all of them", x.Load(0, wrong...), 0)
	for _, start := range []int{least, -10, -1, 1, 5, 9, 255, greatest} {
		want(t, fmt.Sprint("Load off the grid at ", start), x.Load(1, rec("a", start, 1)), 0)
	}
	wantSame(t, "off the grid", x, m)
}

func TestP1102LoadGoesToOneTierAlone(t *testing.T) {
	x := of(web(), 25)
	want(t, "Load", x.Load(0, rec("a", 20, 1), rec("a", 20, 3)), 2)
	wantList(t, "the first tier", x.Records(0), rec("a", 20, 1, 3))
	wantList(t, "the second tier", x.Records(1))
	want(t, "Load", x.Load(1, rec("a", 20, 5)), 1)
	x.Put(at("a", 20, 7))
	wantList(t, "the first tier", x.Records(0), rec("a", 20, 1, 3, 7))
	wantList(t, "the second tier", x.Records(1), rec("a", 20, 5, 7))
}

func TestP1102LoadAtAFloor(t *testing.T) {
	x, m := of(web(), 200, 120, 60), modelOf(web(), 200, 120, 60)
	wantLoad(t, "at a floor", x, m, 0, rec("a", 119, 1), rec("a", 120, 2), rec("a", 121, 3))
	wantLoad(t, "at a floor", x, m, 1, rec("a", 50, 1), rec("a", 60, 2), rec("a", 70, 3))
	want(t, "how many are there", x.Len(), 4)
}

func TestP1103Ask(t *testing.T) {
	for _, p := range []api.Policy{small(), web(), named("one", tier("a", 1, 9, 1))} {
		x, m := of(p, 0), modelOf(p, 0)
		for i := range 40 {
			for _, s := range []string{"a", "b"} {
				x.Put(at(s, m.now, i), at(s, m.now, 1))
				m.add(at(s, m.now, i), at(s, m.now, 1))
			}
			wantTick(t, "on", x, m, 1)
		}
		for _, s := range []string{"a", "b", "c", longest} {
			for from := -1; from <= 45; from++ {
				for to := -1; to <= 45; to++ {
					wantAsk(t, fmt.Sprint("of ", p), x, m, s, from, to)
				}
				wantAsk(t, fmt.Sprint("of ", p), x, m, s, from, greatest)
			}
		}
		wantSame(t, "it stays", x, m)
	}
}

func TestP1103AskOfTheWrong(t *testing.T) {
	x := of(web(), 257)
	x.Put(at("a", 200, 1))
	wrong := []struct {
		s        string
		from, to int
	}{
		{"", 0, 300}, {"A", 0, 300}, {"a ", 0, 300}, {longest + "x", 0, 300}, {"é", 0, 300}, {"a\n", 200, 201},
		{"a", -1, 300}, {"a", least, 300}, {"a", -1, -1}, {"a", least, greatest}, {"a", 201, 200}, {"a", 1, 0}, {"a", greatest, 0}, {"a", 0, -1}, {"a", 0, least}, {"a", greatest, greatest - 1}, {"", -1, -2},
	}
	for _, c := range wrong {
		a, e := x.Ask(c.s, c.from, c.to)
		if e != api.ErrArg || a.Tier != 0 || a.Records != nil {
			t.Errorf("Ask(%q, %d, %d): %v, %d", c.s, c.from, c.to, a, e)
		}
	}
	m := modelOf(web(), 257)
	m.add(at("a", 200, 1))
	for _, at := range []int{0, 150, 200, 257, 258, 1 << 40, greatest} {
		wantAsk(t, "from there to there", x, m, "a", at, at)
		wantAsk(t, "from there on", x, m, "a", at, greatest)
	}
}

func TestP1103AskOfTheTierThatCovers(t *testing.T) {
	x := of(web(), 0)
	for i := range 258 {
		want(t, "Put", x.Put(at("a", i, i)), api.OK)
		want(t, "Tick", x.Tick(1), api.OK)
	}
	for _, c := range []struct{ from, tier, first, n int }{{0, 1, 0, 26}, {1, 1, 10, 25}, {149, 1, 150, 11}, {150, 0, 150, 108}, {151, 0, 151, 107}, {257, 0, 257, 1}, {258, 0, 0, 0}} {
		a, e := x.Ask("a", c.from, 9999)
		want(t, fmt.Sprint("Ask from ", c.from, ": the error"), e, api.OK)
		want(t, fmt.Sprint("Ask from ", c.from, ": the tier"), a.Tier, c.tier)
		want(t, fmt.Sprint("Ask from ", c.from, ": how many"), len(a.Records), c.n)
		if c.n > 0 {
			want(t, fmt.Sprint("Ask from ", c.from, ": the first one"), a.Records[0].Start, c.first)
		}
	}
	// Where no tier reaches back that far it is the last one.
	x = of(web(), 50, 30, 20)
	x.Put(at("a", 35, 1))
	for from := range 36 {
		a, _ := x.Ask("a", from, 40)
		want(t, fmt.Sprint("above floors, from ", from), a.Tier, map[bool]int{true: 0, false: 1}[from >= 30])
		want(t, fmt.Sprint("above floors, from ", from, ": how many"), len(a.Records), 1)
	}
}

func TestP1103TableIsACopy(t *testing.T) {
	x, m := of(web(), 25), modelOf(web(), 25)
	wantPut(t, "some", x, m, at("a", 21, 4), at("b", 25, 6))
	for i := range 2 {
		y := x.Table(i)
		y.Add(rec("z", 0, 1))
		y.Drop(25)
		y.Clear(0, 1)
		wantSame(t, "its tables change", x, m)
	}
	y := x.Table(1)
	was := y.All()
	wantPut(t, "more", x, m, at("a", 22, 9), at("c", 3, 9))
	x.Tick(5000)
	wantList(t, "the table, when tiers change", y.All(), was...)
}

func TestP1103Need(t *testing.T) {
	p := named("p", tier("a", 1, 50, 1), tier("b", 10, 50, 2))
	x := of(p, 50)
	want(t, "Need of none", x.Need(), 0)
	// All of a, c and e are in one of two shards, b is in the other one.
	want(t, "the shards", shard("a", 2) == shard("c", 2) && shard("c", 2) == shard("e", 2) && shard("a", 2) != shard("b", 2), true)
	for i, c := range []struct {
		s    api.Sample
		need int
	}{{at("a", 11, 1), 2}, {at("b", 11, 1), 3}, {at("c", 11, 1), 3}, {at("e", 11, 1), 4}, {at("e", 11, 2), 4}, {at("e", 12, 2), 4}, {at("b", 13, 2), 4}, {at("b", 14, 2), 5}, {at("a", 20, 2), 6}} {
		want(t, "Put", x.Put(c.s), api.OK)
		want(t, fmt.Sprint("Need of ", i+1), x.Need(), c.need)
	}
}

func TestP1103Same(t *testing.T) {
	base := func() *tiers.Tiers {
		x := of(web(), 25, 5, 10)
		x.Put(at("a", 21, 4), at("b", 25, 6))
		return x
	}
	keep, shards, name, third := web(), web(), web(), web()
	keep.Tiers[0].Keep, shards.Tiers[1].Shards, name.Name = 101, 2, "wed"
	third.Tiers = append(third.Tiers, tier("hundreds", 100, 1000, 1))
	all := []*tiers.Tiers{base()}
	for _, p := range []api.Policy{keep, shards, name, third} {
		x := of(p, 25, 5, 10)
		x.Put(at("a", 21, 4), at("b", 25, 6))
		all = append(all, x)
	}
	for _, floors := range [][]int{nil, {4}, {5}, {5, 0}, {5, 20}, {6, 10}} {
		x := of(web(), 25, floors...)
		x.Put(at("a", 21, 4), at("b", 25, 6))
		all = append(all, x)
	}
	changes := []func(x *tiers.Tiers){
		func(x *tiers.Tiers) { x.Tick(1) },
		func(x *tiers.Tiers) { x.Put(at("a", 21, 0)) },
		func(x *tiers.Tiers) { x.Put(at("c", 21, 4)) },
		func(x *tiers.Tiers) { x.Put(at("a", 20, 4)) },
		func(x *tiers.Tiers) { x.Load(0, rec("a", 21, 1)) },
		func(x *tiers.Tiers) { x.Load(0, rec("z", 30, 1)) },
		func(x *tiers.Tiers) { x.Load(1, rec("a", 20, 1)) },
		func(x *tiers.Tiers) { x.Load(1, rec("a", 30, 1)) },
		func(x *tiers.Tiers) { x.Tick(1000) },
	}
	for _, change := range changes {
		x := base()
		change(x)
		all = append(all, x)
	}
	all = append(all, of(web(), 25, 5, 10), of(web(), 25), nil, &tiers.Tiers{})
	// Of those with floors (5) and (5, 0) the Froms are alike.
	alike := func(i, j int) bool { return i == j || i == 7 && j == 8 || i == 8 && j == 7 }
	for i, x := range all {
		for j, y := range all {
			want(t, fmt.Sprint("Same of ", i, " and ", j), x.Same(y), alike(i, j))
		}
		want(t, fmt.Sprint("Same of ", i, " and its Copy"), x.Same(x.Copy()), true)
		want(t, fmt.Sprint("Same of the Copy of ", i, " and it"), x.Copy().Same(x), true)
	}
	want(t, "Same of two that came the same way", base().Same(base()), true)
}

func TestP1103SameCountsNoFloorThatIsPassed(t *testing.T) {
	x, y := of(web(), 25, 5, 10), of(web(), 25)
	want(t, "at a floor", x.Same(y), false)
	for now := 26; now <= 1100; now++ {
		x.Tick(1)
		y.Tick(1)
		want(t, fmt.Sprint("at ", now), x.Same(y), now >= 1010)
	}
	z := of(web(), 25)
	z.Put(at("a", 3, 1))
	z.Tick(1075)
	want(t, "what was dropped", z.Same(y), true)
}

func TestP1103Copy(t *testing.T) {
	changes := []func(x *tiers.Tiers){
		func(x *tiers.Tiers) { x.Put(at("a", 12, 9)) },
		func(x *tiers.Tiers) { x.Put(at("z", 12, 9)) },
		func(x *tiers.Tiers) { x.Tick(1) },
		func(x *tiers.Tiers) { x.Tick(8) },
		func(x *tiers.Tiers) { x.Load(0, rec("b", 11, 9)) },
		func(x *tiers.Tiers) { x.Load(2, rec("b", 18, 9)) },
		func(x *tiers.Tiers) { x.Tick(1000) },
		func(x *tiers.Tiers) { x.Policy.Tiers[0].Keep = 2 },
		func(x *tiers.Tiers) { x.Policy.Tiers[2].Shards = 1 },
		func(x *tiers.Tiers) { x.Floors[1] = 8 },
	}
	for i, change := range changes {
		what := fmt.Sprint("change ", i)
		x, m := of(small(), 12, 3, 4, 6), modelOf(small(), 12, 3, 4, 6)
		wantPut(t, what, x, m, at("a", 12, 1), at("a", 11, 2), at("b", 12, 3))
		y := x.Copy()
		want(t, what+": is it another one", x != y, true)
		wantSame(t, what+": the Copy", y, m)
		wantList(t, what+": its floors", y.Floors, 3, 4, 6)
		change(y)
		wantSame(t, what+": the Copy changes", x, m)
		wantList(t, what+": the Copy changes: the floors", x.Floors, 3, 4, 6)
		y = x.Copy()
		for _, again := range changes {
			again(x)
			wantSame(t, what+": what was copied changes", y, m)
			wantList(t, what+": what was copied changes: the floors", y.Floors, 3, 4, 6)
		}
	}
}

// wantNone wants of tiers what those tell that are none.
func wantNone(t *testing.T, what string, x *tiers.Tiers) {
	t.Helper()
	for _, l := range [][]api.Sample{nil, {at("a", 0, 1)}, make([]api.Sample, 9), {at("A", 0, 1)}, {at("a", 1, 1)}} {
		want(t, fmt.Sprint(what, ": Put ", l), x.Put(l...), api.ErrArg)
	}
	for _, n := range []int{least, -1, 0, 1, 1 << 40, 1<<40 + 1, greatest} {
		want(t, fmt.Sprint(what, ": Tick ", n), x.Tick(n), api.ErrArg)
	}
	for _, s := range []string{"a", "", "A"} {
		a, e := x.Ask(s, 0, 1)
		want(t, what+": Ask", e, api.ErrArg)
		want(t, what+": Ask: the tier", a.Tier, 0)
		wantList(t, what+": Ask", a.Records)
	}
	for _, i := range []int{least, -1, 0, 1, greatest} {
		want(t, what+": Load", x.Load(i, rec("a", 0, 1)), 0)
		want(t, what+": Load of none", x.Load(i), 0)
		want(t, what+": Table", x.Table(i), nil)
		wantList(t, what+": Records", x.Records(i))
	}
	want(t, what+": Need", x.Need(), 0)
	want(t, what+": Len", x.Len(), 0)
	want(t, what+": Empty", x.Empty(), true)
	want(t, what+": Same", x.Same(x), true)
	want(t, what+": Same as others", x.Same(of(web(), 0)), false)
	want(t, what+": others the Same", of(web(), 0).Same(x), false)
}

func TestP1104NilAndZero(t *testing.T) {
	var none *tiers.Tiers
	wantNone(t, "a nil one", none)
	want(t, "Same of two nil ones", none.Same(nil), true)
	want(t, "Copy of a nil one", none.Copy(), nil)

	var zero tiers.Tiers
	wantNone(t, "a zero one", &zero)
	wantNone(t, "the Copy of a zero one", zero.Copy())
	want(t, "Same of two zero ones", zero.Same(&tiers.Tiers{}), true)
	wantList(t, "the Froms of a zero one", zero.All())
	wantList(t, "the Froms of the Copy of a zero one", zero.Copy().All())
}

func TestAReachSetByHandPanicsNowhere(t *testing.T) {
	made := []*tiers.Tiers{{Reach: reach.Of(web(), 25)}}
	for _, p := range []api.Policy{{}, small(), named("p", tier("a", 0, -1, 0)), named("p", make([]api.Tier, 9)...)} {
		for _, now := range []int{least, -1, 0, 25, greatest} {
			x := of(web(), 25)
			x.Put(at("a", 20, 1))
			x.Policy, x.Now, x.Floors = p, now, []int{greatest, least, -1}
			made = append(made, x)
		}
	}
	for _, x := range made {
		x.Put(at("a", 20, 1))
		x.Ask("a", 20, 30)
		x.Load(0, rec("a", 20, 1))
		x.Load(5, rec("a", 20, 1))
		x.Table(1)
		x.Records(5)
		x.Need()
		x.Len()
		want(t, "Same of its Copy", x.Same(x.Copy()), true)
		for _, y := range made {
			x.Same(y)
		}
		x.Tick(1)
		x.Tick(greatest)
	}
}

// row is a row of numbers that look like chance, but are the same each time.
type row uint64

// next tells the next number, below n.
func (r *row) next(n int) int {
	*r = *r*6364136223846793005 + 1442695040888963407
	return int(*r>>33) % n
}

// sample tells the next sample: most may come at that time, some may not.
func (r *row) sample(now int) api.Sample {
	s := at([]string{"a", "b", "c", "ab", longest}[r.next(5)], now-r.next(4), r.next(9)-4)
	switch r.next(40) {
	case 0:
		s.Time = now + 1 + r.next(3)
	case 1:
		s.Time = now - r.next(60)
	case 2:
		s.Name = "B"
	}
	return s
}

// batch tells the next samples, now and then too many, or none.
func (r *row) batch(now int) []api.Sample {
	var l []api.Sample
	for range r.next(10) {
		l = append(l, r.sample(now))
	}
	return l
}

// floors tells floors that some of the first tiers of a policy may have.
func (r *row) floors(p api.Policy) []int {
	var l []int
	for _, x := range p.Tiers[:r.next(len(p.Tiers)+1)] {
		l = append(l, x.Every*r.next(4))
	}
	return l
}

func TestP1104TiersAreThoseOfTheModel(t *testing.T) {
	taken := 0
	for seed := range 150 {
		r := row(seed)
		p := policies()[seed%len(policies())]
		now, floors := r.next(50), r.floors(p)
		x, m := of(p, now, floors...), modelOf(p, now, floors...)
		for i := range 40 {
			what := fmt.Sprint("seed ", seed, ", call ", i)
			switch r.next(6) {
			case 0, 1:
				wantTick(t, what, x, m, r.next(5)*r.next(5)-1)
			case 2:
				k := r.next(7) - 1
				wantLoad(t, what, x, m, k, rec("a", m.now/6*6-6*r.next(3), i), rec("b", m.now-r.next(20), i, i))
			case 3:
				x = x.Copy()
			default:
				wantPut(t, what, x, m, r.batch(m.now)...)
			}
			wantAsk(t, what, x, m, "a", m.now-r.next(40), m.now-r.next(40)+20)
			wantAsk(t, what, x, m, "b", r.next(m.now+2), greatest)
		}
		want(t, fmt.Sprint("seed ", seed, ": Same"), x.Same(x.Copy()), true)
		taken += len(m.put)
	}
	want(t, "are enough of them taken", taken > 3000, true)
}

// texts are the names of records.
func texts(l []api.Record) []string {
	var all []string
	for _, r := range l {
		all = append(all, r.Name)
	}
	return all
}

// wantApart wants texts to share no bytes.
func wantApart(t *testing.T, what string, a, b []string) {
	t.Helper()
	want(t, what+": are there any", len(a) > 0 && len(b) > 0, true)
	for _, x := range a {
		for _, y := range b {
			from, to := uintptr(unsafe.Pointer(unsafe.StringData(x))), uintptr(unsafe.Pointer(unsafe.StringData(y)))
			if from < to+uintptr(len(y)) && to < from+uintptr(len(x)) {
				t.Errorf("%s: %q and %q share their bytes", what, x, y)
			}
		}
	}
}

func TestTextsAreKeptApart(t *testing.T) {
	text := strings.Clone("web raw tens cpu disk")
	p := named(text[:3], tier(text[4:7], 1, 100, 2), tier(text[8:12], 10, 1000, 1))
	x := of(p, 25)
	x.Put(at(text[13:16], 21, 1))
	x.Load(0, rec(text[17:], 22, 1))
	x.Load(1, rec(text[17:], 20, 1))
	answers := []func() []string{
		func() []string { return texts(x.Records(0)) },
		func() []string { return texts(x.Records(1)) },
		func() []string { return x.Table(0).Names() },
		func() []string { return texts(x.Copy().Records(1)) },
		func() []string {
			a, _ := x.Ask(text[13:16], 21, 30)
			return texts(a.Records)
		},
		func() []string { y := x.Copy(); return []string{y.Policy.Name, y.Policy.Tiers[0].Name} },
	}
	for i, f := range answers {
		got := f()
		wantApart(t, fmt.Sprint("answer ", i, " and what was handed in"), got, []string{text})
		for k, g := range answers {
			wantApart(t, fmt.Sprint("answers ", i, " and ", k), got, g())
		}
	}
	wantApart(t, "the policy", []string{x.Policy.Name, x.Policy.Tiers[0].Name, x.Policy.Tiers[1].Name}, []string{text})
	wantApart(t, "the policy of a Copy", []string{x.Copy().Policy.Name}, []string{x.Policy.Name})
}

func TestAnswersOwnTheirMemory(t *testing.T) {
	x, m := of(web(), 25), modelOf(web(), 25)
	samples := []api.Sample{at("a", 21, 4), at("b", 25, 6), at("a", 22, 1)}
	wantPut(t, "some", x, m, samples...)
	records := []api.Record{rec("c", 1, 1), rec("a", 21, 2)}
	wantLoad(t, "some", x, m, 0, records...)
	for i := range samples {
		samples[i] = at("z", 1, 1)
	}
	for i := range records {
		records[i] = rec("z", 1, 1)
	}
	wantSame(t, "what was handed in changes", x, m)

	a, _ := x.Ask("a", 0, 99)
	for i, l := range [][]api.Record{a.Records, x.Records(0), x.Records(1)} {
		for k := range l {
			l[k] = rec("z", 99, 9)
		}
		_ = append(l, rec("z", 0, 1))
		wantSame(t, fmt.Sprint("answer ", i, " changes"), x, m)
	}
	x.All()[0] = 9
	wantSame(t, "the Froms that were told change", x, m)

	a, _ = x.Ask("a", 0, 99)
	was := slices.Clone(a.Records)
	x.Put(at("a", 21, 4), at("a", 20, 4))
	x.Tick(2000)
	wantList(t, "an answer, when tiers change", a.Records, was...)
}

func TestReadme(t *testing.T) {
	x, e := tiers.New(web(), 25)
	want(t, "New", e, api.OK)
	want(t, "Put", x.Put(at("cpu", 21, 4), at("cpu", 25, 6)), api.OK)
	a, e := x.Ask("cpu", 20, 30)
	want(t, "Ask: the error", e, api.OK)
	want(t, "Ask: the tier", a.Tier, 0)
	wantList(t, "Ask", a.Records, rec("cpu", 21, 4), rec("cpu", 25, 6))
	want(t, "Tick", x.Tick(105), api.OK)
	a, _ = x.Ask("cpu", 20, 30)
	want(t, "Ask later: the tier", a.Tier, 1)
	wantList(t, "Ask later", a.Records, rec("cpu", 20, 4, 6))
	want(t, "From", x.From(0), 30)
	want(t, "Need", x.Need(), 1)
	twin := x.Copy()
	want(t, "Same", x.Same(twin), true)
	want(t, "Table", x.Table(1) != nil && x.Table(2) == (*table.Table)(nil), true)
}
