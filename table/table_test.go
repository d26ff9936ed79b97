package table_test

import (
	"cmp"
	"fmt"
	"hash/fnv"
	"math"
	"slices"
	"strings"
	"testing"
	"unsafe"

	"sediment/agg"
	"sediment/api"
	"sediment/table"
)

const (
	least    = math.MinInt
	greatest = math.MaxInt
	longest  = "fifteen.bytes-_" // a name of as many bytes as it may have
)

// want holds an answer against what is wanted.
func want[T comparable](t *testing.T, what string, got, wanted T) {
	t.Helper()
	if got != wanted {
		t.Errorf("%s: %v, not %v", what, got, wanted)
	}
}

// wantList holds a list against what is wanted; nil and empty ones are one.
func wantList[T comparable](t *testing.T, what string, got []T, wanted ...T) {
	t.Helper()
	if !slices.Equal(got, wanted) {
		t.Errorf("%s: %v, not %v", what, got, wanted)
	}
}

// wantFind holds what Find tells against what is wanted.
func wantFind(t *testing.T, x *table.Table, s string, start int, a api.Agg, has bool) {
	t.Helper()
	got, is := x.Find(s, start)
	if got != a || is != has {
		t.Errorf("Find(%q, %d): %v, %v, not %v, %v", s, start, got, is, a, has)
	}
}

// rec is the record of these values.
func rec(s string, start int, v ...int) api.Record {
	return api.Record{Name: s, Start: start, Agg: agg.Of(v...)}
}

// of is a table of that Every with these records.
func of(every int, l ...api.Record) *table.Table {
	x := table.New(every)
	x.Add(l...)
	return x
}

// shard is the shard of a name, by a hash of the library's.
func shard(s string, shards int) int {
	h := fnv.New32a()
	h.Write([]byte(s))
	if shards < 1 {
		return 0
	}
	return int(h.Sum32()) % shards
}

// right tells whether a record may stand in a table of that Every.
func right(r api.Record, every int) bool {
	if len(r.Name) < 1 || len(r.Name) > 15 || strings.Trim(r.Name, "abcdefghijklmnopqrstuvwxyz0123456789._-") != "" {
		return false
	}
	return r.Start >= 0 && r.Start%every == 0 && r.Agg.Count >= 1 && r.Agg.Count <= 1<<62 && r.Agg.Min <= r.Agg.Max
}

// model is a table as one list that is gone through from end to end.
type model struct {
	every int
	l     []api.Record
}

// add puts records to it, one by one, and tells how many.
func (m *model) add(l ...api.Record) int {
	n := 0
	for _, r := range l {
		if !right(r, m.every) {
			continue
		}
		n++
		at := slices.IndexFunc(m.l, func(x api.Record) bool { return x.Name == r.Name && x.Start == r.Start })
		if at < 0 {
			m.l = append(m.l, r)
		} else {
			m.l[at].Agg = agg.Merge(m.l[at].Agg, r.Agg)
		}
	}
	slices.SortFunc(m.l, func(a, b api.Record) int {
		return cmp.Or(strings.Compare(a.Name, b.Name), cmp.Compare(a.Start, b.Start))
	})
	return n
}

// those tells the records that are so.
func (m *model) those(is func(r api.Record) bool) []api.Record {
	var l []api.Record
	for _, r := range m.l {
		if is(r) {
			l = append(l, r)
		}
	}
	return l
}

// lose lets go of the records that are so, and tells how many.
func (m *model) lose(is func(r api.Record) bool) int {
	was := len(m.l)
	m.l = m.those(func(r api.Record) bool { return !is(r) })
	return was - len(m.l)
}

// names tells all names.
func (m *model) names() []string {
	var l []string
	for _, r := range m.l {
		if !slices.Contains(l, r.Name) {
			l = append(l, r.Name)
		}
	}
	return l
}

// roll tells the records in coarser buckets.
func (m *model) roll(every, from int) *model {
	up := &model{every: max(every, 1)}
	for _, r := range m.l {
		r.Start = r.Start / up.every * up.every
		if r.Start >= from && up.every%m.every == 0 {
			up.add(r)
		}
	}
	return up
}

// need tells how many blocks it takes: each third record of a shard, from the first one on, begins one.
func (m *model) need(shards int) int {
	n := 0
	for i, r := range m.l {
		ahead := 0
		for _, x := range m.l[:i] {
			if shard(x.Name, shards) == shard(r.Name, shards) {
				ahead++
			}
		}
		if ahead%3 == 0 {
			n++
		}
	}
	return n
}

// wantSame holds all that tells of what is in a table against the model.
func wantSame(t *testing.T, what string, x *table.Table, m *model) {
	t.Helper()
	want(t, what+": Every", x.Every(), m.every)
	want(t, what+": Len", x.Len(), len(m.l))
	wantList(t, what+": All", x.All(), m.l...)
	wantList(t, what+": Names", x.Names(), m.names()...)
}

// wantAll holds all that can be asked of a table against the model.
func wantAll(t *testing.T, what string, x *table.Table, m *model, names []string, starts []int) {
	t.Helper()
	wantSame(t, what, x, m)
	wantSame(t, what+": Copy", x.Copy(), m)
	for _, s := range names {
		for _, from := range starts {
			there := m.those(func(r api.Record) bool { return r.Name == s && r.Start == from })
			if len(there) > 0 {
				wantFind(t, x, s, from, there[0].Agg, true)
			} else {
				wantFind(t, x, s, from, api.Agg{}, false)
			}
			for _, to := range starts {
				in := m.those(func(r api.Record) bool { return r.Name == s && r.Start >= from && r.Start < to })
				wantList(t, fmt.Sprint(what, ": Range ", s, from, to), x.Range(s, from, to), in...)
			}
		}
	}
	for _, shards := range []int{least, 5, 9, 10, 1000, 1 << 32, 1<<32 + 1, greatest} {
		want(t, fmt.Sprint(what, ": Need ", shards), x.Need(shards), m.need(shards))
	}
	for _, shards := range []int{-1, 0, 1, 2, 3, 8} {
		want(t, fmt.Sprint(what, ": Need ", shards), x.Need(shards), m.need(shards))
		for k := -1; k <= max(shards, 1); k++ {
			in := m.those(func(r api.Record) bool { return shard(r.Name, shards) == k })
			wantList(t, fmt.Sprint(what, ": Shard ", k, shards), x.Shard(k, shards), in...)
		}
	}
	for _, every := range []int{-1, 0, 1, 2, 3, 4, 6, 9, 12} {
		for _, from := range []int{least, -1, 0, 1, 6, 12, 13} {
			wantSame(t, fmt.Sprint(what, ": Roll ", every, from), x.Roll(every, from), m.roll(every, from))
		}
	}
}

func TestP1001New(t *testing.T) {
	for _, c := range []struct{ every, is int }{{1, 1}, {2, 2}, {10, 10}, {1000000, 1000000}, {greatest, greatest}, {0, 1}, {-1, 1}, {-10, 1}, {least, 1}} {
		x := table.New(c.every)
		wantAll(t, fmt.Sprint("New ", c.every), x, &model{every: c.is}, []string{"a", ""}, []int{-1, 0, 1})
		// It is its Every, not what was asked for, that says what may stand there.
		want(t, fmt.Sprint("Add at its Every of New ", c.every), x.Add(rec("a", c.is, 5)), 1)
		want(t, fmt.Sprint("Add off its grid of New ", c.every), x.Add(rec("a", c.is-1, 5)), map[bool]int{true: 1}[c.is == 1])
	}
}

func TestP1001Example(t *testing.T) {
	x := table.New(10)
	want(t, "Add", x.Add(rec("a", 20, 1), rec("a", 21, 1), rec("a", 20, 3)), 2)
	wantFind(t, x, "a", 20, agg.Of(1, 3), true)
	wantFind(t, x, "a", 21, api.Agg{}, false)
}

// wrongAggs are aggregates that may not be.
func wrongAggs() []api.Agg {
	return []api.Agg{{}, {Count: 0, Min: 1, Max: 2}, {Count: -1, Min: 1, Max: 1}, {Count: least}, {Count: 1<<62 + 1}, {Count: greatest}, {Count: 1, Lo: 2, Min: 2, Max: 1}, {Count: 9, Min: greatest, Max: least}}
}

// wrongs are records that may not stand in a table of Every 10.
func wrongs() []api.Record {
	l := []api.Record{{}, {Name: "a"}, {Name: "a", Start: 10}, {Start: 10, Agg: agg.Of(1)}}
	for _, s := range []string{"", "A", "a b", " ", "a ", "\x00", "a\n", "é", "{", "/", ":", longest + "x", strings.Repeat("a", 271)} {
		l = append(l, rec(s, 10, 1))
	}
	for _, start := range []int{least, least + 8, -20, -10, -1, 1, 5, 9, 11, 19, 21, greatest} {
		l = append(l, rec("a", start, 1))
	}
	for _, a := range wrongAggs() {
		l = append(l, api.Record{Name: "a", Start: 10, Agg: a})
	}
	return l
}

func TestP1001AddOfTheWrong(t *testing.T) {
	good := []api.Record{rec("a", 10, 4), rec("b", 0, 5), rec(longest, 20, -6)}
	for _, r := range wrongs() {
		x, what := table.New(10), fmt.Sprint("Add of ", r)
		want(t, what, x.Add(r), 0)
		wantAll(t, what, x, &model{every: 10}, []string{"a", r.Name}, []int{r.Start, 0, 10})
		want(t, what+" twice, among others", x.Add(r, good[0], r, good[1], good[2]), 3)
		wantSame(t, what+" among others", x, &model{10, good})
		want(t, what+" to what is there", x.Add(r), 0)
		wantSame(t, what+" to what is there", x, &model{10, good})
	}
	x := of(10, good...)
	want(t, "Add of all of them", x.Add(wrongs()...), 0)
	wantSame(t, "Add of all of them", x, &model{10, good})
}

func TestP1001AddOfTheRight(t *testing.T) {
	m := &model{every: 7}
	x := table.New(7)
	for _, r := range []api.Record{
		rec("a", 0, least), rec("a", 7, greatest), rec("-", 0, 0), rec(longest, 14, 1), rec("a", greatest, 3), rec("0", api.MaxTime/7*7+7, 4),
		{Name: "z", Start: 7, Agg: api.Agg{Count: 1 << 62, Hi: -5, Lo: 9, Min: -3, Max: -3}}, {Name: "z", Start: 14, Agg: api.Agg{Count: 1}},
	} {
		want(t, fmt.Sprint("Add of ", r), x.Add(r), 1)
		want(t, fmt.Sprint("Add of ", r, " to the model"), m.add(r), 1)
		wantSame(t, fmt.Sprint("Add of ", r), x, m)
	}
	wantFind(t, x, "a", greatest, agg.Of(3), true)
	wantList(t, "Range to the end", x.Range("a", 8, greatest))
	want(t, "Add of none", x.Add(), 0)
	want(t, "Add of a nil list", x.Add([]api.Record(nil)...), 0)
	wantSame(t, "Add of none", x, m)
}

func TestP1001AddOfEachByte(t *testing.T) {
	for c := range 256 {
		s := "a" + string([]byte{byte(c)}) + "z"
		x := table.New(1)
		is := 0
		if right(rec(s, 3, 1), 1) {
			is = 1
		}
		want(t, fmt.Sprint("Add of the byte ", c), x.Add(rec(s, 3, 1)), is)
		wantFind(t, x, s, 3, map[int]api.Agg{1: agg.Of(1)}[is], is == 1)
	}
}

func TestP1001AddMerges(t *testing.T) {
	x := of(5, rec("a", 10, 3), rec("a", 10, -8, 2), rec("b", 10, 7))
	wantFind(t, x, "a", 10, agg.Of(3, -8, 2), true)
	want(t, "Add to what is there", x.Add(rec("a", 10, 9), rec("a", 5, 1), rec("a", 10, -9)), 3)
	wantFind(t, x, "a", 10, agg.Of(3, -8, 2, 9, -9), true)
	wantFind(t, x, "a", 5, agg.Of(1), true)
	wantFind(t, x, "b", 10, agg.Of(7), true)
	want(t, "Len", x.Len(), 3)

	full := api.Agg{Count: 1 << 62, Hi: greatest, Lo: math.MaxUint64, Min: 0, Max: 9}
	x.Add(api.Record{Name: "b", Start: 10, Agg: full})
	wantFind(t, x, "b", 10, api.Agg{Count: 1 << 62, Hi: least, Lo: 6, Min: 0, Max: 9}, true)
}

// orders calls f with each order of the list.
func orders(l []api.Record, f func(l []api.Record)) {
	var from func(n int)
	from = func(n int) {
		if n == len(l) {
			f(l)
			return
		}
		for i := n; i < len(l); i++ {
			l[n], l[i] = l[i], l[n]
			from(n + 1)
			l[n], l[i] = l[i], l[n]
		}
	}
	from(0)
}

func TestP1001AddInAnyOrder(t *testing.T) {
	l := []api.Record{rec("a", 0, 1), rec("a", 4, 2), rec("a", 4, 30), rec("a", 8, 4), rec("b", 4, 500), rec("ab", 4, -6), rec("a", 8, 70)}
	m := &model{every: 4}
	m.add(l...)
	orders(l, func(l []api.Record) {
		was := slices.Clone(l)
		for cut := range len(l) + 1 {
			x := table.New(4)
			want(t, "Add of the first ones", x.Add(l[:cut]...), cut)
			want(t, "Add of the others", x.Add(l[cut:]...), len(l)-cut)
			wantSame(t, fmt.Sprint("Add of ", l, " in two"), x, m)
		}
		x := table.New(4)
		for _, r := range l {
			x.Add(r)
		}
		wantSame(t, fmt.Sprint("Add of ", l, " one by one"), x, m)
		wantList(t, "what was handed in", l, was...)
	})
}

func TestP1001Find(t *testing.T) {
	x := of(10, rec("a", 10, 1), rec("a", 30, 3), rec("b", 20, 2), rec("aa", 0, 5))
	for _, r := range x.All() {
		wantFind(t, x, r.Name, r.Start, r.Agg, true)
	}
	for _, start := range []int{least, -10, -1, 0, 9, 11, 15, 20, 29, 31, 40, greatest} {
		wantFind(t, x, "a", start, api.Agg{}, false)
	}
	for _, s := range []string{"", "c", "A", "a ", "ab", longest + longest} {
		wantFind(t, x, s, 0, api.Agg{}, false)
		wantFind(t, x, s, 10, api.Agg{}, false)
	}
}

func TestP1001Range(t *testing.T) {
	a := []api.Record{rec("a", 0, 1), rec("a", 10, 2), rec("a", 20, 3), rec("a", 50, 4)}
	x := of(10, slices.Concat(a, []api.Record{rec("b", 10, 9), rec("aa", 20, 9)})...)
	cases := []struct{ from, to, first, end int }{
		{0, 60, 0, 4}, {least, greatest, 0, 4}, {0, 51, 0, 4}, {0, 50, 0, 3}, {1, 50, 1, 3}, {0, 20, 0, 2}, {0, 21, 0, 3}, {10, 20, 1, 2}, {11, 20, 2, 2}, {10, 10, 1, 1},
		{10, 11, 1, 2}, {9, 11, 1, 2}, {-5, 1, 0, 1}, {-5, 0, 0, 0}, {21, 50, 3, 3}, {50, 51, 3, 4}, {51, 60, 4, 4},
		{20, 10, 0, 0}, {50, 0, 0, 0}, {greatest, least, 0, 0}, {21, 20, 0, 0}, {greatest, greatest, 0, 0}, {least, least, 0, 0},
	}
	for _, c := range cases {
		wantList(t, fmt.Sprint("Range of a ", c.from, c.to), x.Range("a", c.from, c.to), a[c.first:c.end]...)
		wantList(t, fmt.Sprint("Range of none ", c.from, c.to), x.Range("c", c.from, c.to))
	}
	wantList(t, "Range of another one", x.Range("b", 0, 99), rec("b", 10, 9))
	wantList(t, "Range of no name", x.Range("", 0, 99))
}

func TestP1001Drop(t *testing.T) {
	l := []api.Record{rec("a", 0, 1), rec("a", 10, 2), rec("a", 20, 3), rec("b", 10, 4), rec("b", 40, 5), rec("c", 0, 6)}
	for _, below := range []int{least, -1, 0, 1, 9, 10, 11, 20, 21, 39, 40, 41, 1000, greatest} {
		x, m := of(10, l...), &model{10, slices.Clone(l)}
		gone := m.lose(func(r api.Record) bool { return r.Start < below })
		what := fmt.Sprint("Drop below ", below)
		want(t, what, x.Drop(below), gone)
		wantAll(t, what, x, m, []string{"a", "b", "c"}, []int{-1, 0, 10, 11, 40, 41})
		want(t, what+" once more", x.Drop(below), 0)
		want(t, what+": Add behind it", x.Add(l...), m.add(l...))
		wantSame(t, what+": Add behind it", x, m)
	}
	x := of(1, rec("a", greatest, 1), rec("a", greatest-1, 2))
	want(t, "Drop below the greatest", x.Drop(greatest), 1)
	wantList(t, "what stays", x.All(), rec("a", greatest, 1))
}

func TestP1001InOrder(t *testing.T) {
	names := []string{"-", ".", "0", "10", "9", "_", "a", "a-", "a.", "a0", "a_", "aa", "ab", "b", "z"}
	x := table.New(5)
	var wanted []api.Record
	for i := range names {
		s := names[len(names)-1-i]
		x.Add(rec(s, 100, i), rec(s, 5, i), rec(s, 20, i))
		wanted = slices.Concat([]api.Record{rec(s, 5, i), rec(s, 20, i), rec(s, 100, i)}, wanted)
		want(t, "Len", x.Len(), 3*(i+1))
	}
	wantList(t, "All", x.All(), wanted...)
	wantList(t, "Names", x.Names(), names...)
}

func TestP1001Many(t *testing.T) {
	const n = 200000
	// Each one of them comes ahead of all that are there: were these moved each time it would not end.
	var l []api.Record
	for i := range n {
		l = append(l, rec("a", 3*(n-1-i), i), rec("b", 3*(i*7919%n), i))
	}
	x := table.New(3)
	want(t, "Add", x.Add(l...), 2*n)
	want(t, "Len", x.Len(), 2*n)
	want(t, "Need", x.Need(1), (2*n+2)/3)
	a := x.Range("a", 0, greatest)
	want(t, "Range", len(a), n)
	for i, r := range a {
		if r != rec("a", 3*i, n-1-i) {
			t.Fatal(i, r)
		}
	}
	want(t, "Roll", x.Roll(3000, 0).Len(), 2*n/1000)
	want(t, "Drop", x.Drop(3*(n-1)), 2*n-2)
	wantList(t, "what stays", x.All()[:1], a[n-1])
}

func TestP1002Shard(t *testing.T) {
	var l []api.Record
	for i := range 30 {
		l = append(l, rec(fmt.Sprint("s", i%12), i, i), rec(fmt.Sprint("s", i%12), 99-i, i))
	}
	m := &model{every: 1}
	m.add(l...)
	x := of(1, l...)
	for _, shards := range []int{1, 2, 3, 5, 8, 100, 1 << 32, 1<<32 + 1, greatest, 0, -1, -8, least} {
		var all []api.Record
		for _, k := range []int{0, 1, 2, 3, 4, 5, 6, 7, 8, 100, -1, least, greatest} {
			in := m.those(func(r api.Record) bool { return shard(r.Name, shards) == k })
			wantList(t, fmt.Sprint("Shard ", k, shards), x.Shard(k, shards), in...)
			all = append(all, in...)
		}
		if shards <= 8 {
			want(t, fmt.Sprint("all of ", shards), len(all), 60)
		}
	}
	wantList(t, "the only one", x.Shard(0, 1), m.l...)
	wantList(t, "the one of none", x.Shard(0, 0), m.l...)
	wantList(t, "another one of none", x.Shard(1, 0))
	wantSame(t, "it stays", x, m)
}

func TestP1002Clear(t *testing.T) {
	var l []api.Record
	for i := range 40 {
		l = append(l, rec(fmt.Sprint("s", i%9), i/2*2, i))
	}
	for _, shards := range []int{1, 2, 3, 8, 1000, 0, -1, least, greatest} {
		for _, k := range []int{0, 1, 2, 7, 8, -1, least, greatest} {
			x, m := of(2, l...), &model{every: 2}
			m.add(l...)
			is := func(r api.Record) bool { return shard(r.Name, shards) == k }
			what := fmt.Sprint("Clear ", k, shards)
			want(t, what, x.Clear(k, shards), m.lose(is))
			wantSame(t, what, x, m)
			wantList(t, what+": what it has", x.Shard(k, shards))
			want(t, what+" once more", x.Clear(k, shards), 0)
			want(t, what+": Add behind it", x.Add(l...), m.add(l...))
			wantSame(t, what+": Add behind it", x, &model{2, x.All()})
		}
	}
}

func TestP1002Need(t *testing.T) {
	x := table.New(1)
	want(t, "Need of none", x.Need(4), 0)
	for i := range 20 {
		x.Add(rec("a", i, 1))
		// One name is in one shard, however many there are.
		for _, shards := range []int{least, -1, 0, 1, 2, 8, greatest} {
			want(t, fmt.Sprint("Need of ", i+1, " in ", shards), x.Need(shards), (i+3)/3)
		}
	}
	// Two shards each make up their own blocks.
	x = of(1, rec("a", 0, 1), rec("b", 0, 1))
	want(t, "the shards of a and b", shard("a", 2) != shard("b", 2), true)
	want(t, "Need of two in one shard", x.Need(1), 1)
	want(t, "Need of two in two shards", x.Need(2), 2)
	// Two names of one shard share them.
	x = of(1, rec("a", 0, 1), rec("c", 0, 1), rec("e", 0, 1), rec("b", 5, 1))
	want(t, "the shards of a, c and e", shard("a", 2) == shard("c", 2) && shard("c", 2) == shard("e", 2), true)
	want(t, "Need of three and one", x.Need(2), 2)
	x.Add(rec("c", 9, 1))
	want(t, "Need of four and one", x.Need(2), 3)
	x.Add(rec("c", 9, 1))
	want(t, "Need where one was merged", x.Need(2), 3)
	want(t, "Need of five", x.Need(0), 2)
}

func TestP1003Roll(t *testing.T) {
	x := of(2, rec("a", 0, 1), rec("a", 2, 2), rec("a", 6, 3), rec("a", 10, 4), rec("b", 10, 5))
	x2 := x.Roll(6, 0)
	want(t, "Every", x2.Every(), 6)
	wantList(t, "Roll", x2.All(), rec("a", 0, 1, 2), rec("a", 6, 3, 4), rec("b", 6, 5))
	wantList(t, "Roll of its own Every", x.Roll(2, 0).All(), x.All()...)
	wantList(t, "Roll to one bucket", x.Roll(1000000, 0).All(), rec("a", 0, 1, 2, 3, 4), rec("b", 0, 5))
	// Where Every does not divide there is none, but an empty one that takes.
	for _, every := range []int{1, 3, 5, 7, 0, -2, -6, least, greatest} {
		none := x.Roll(every, 0)
		wantSame(t, fmt.Sprint("Roll ", every), none, &model{every: max(every, 1)})
		want(t, "Add to it", none.Add(rec("a", 0, 1)), 1)
	}
	fine := of(1, rec("a", 3, 1))
	wantList(t, "Roll below 1 of Every 1", fine.Roll(-7, 3).All(), rec("a", 3, 1))
	wantList(t, "Roll to the greatest", fine.Roll(greatest, 0).All(), rec("a", 0, 1))
	ends := of(1, rec("a", greatest, 1), rec("a", greatest-1, 2))
	wantList(t, "Roll of the greatest", ends.Roll(10, 0).All(), rec("a", greatest-7, 2, 1))
	wantList(t, "Roll of the greatest to the greatest", ends.Roll(greatest, 1).All(), rec("a", greatest, 1))
}

func TestP1003RollFrom(t *testing.T) {
	x := of(5, rec("a", 0, 1), rec("a", 5, 2), rec("a", 10, 3), rec("a", 15, 4), rec("b", 5, 5))
	tens := []api.Record{rec("a", 0, 1, 2), rec("a", 10, 3, 4), rec("b", 0, 5)}
	for _, from := range []int{least, -10, -1, 0} {
		wantList(t, fmt.Sprint("Roll from ", from), x.Roll(10, from).All(), tens...)
	}
	// A bucket that begins below from is not there, not even with what begins above.
	for _, from := range []int{1, 5, 9, 10} {
		wantList(t, fmt.Sprint("Roll from ", from), x.Roll(10, from).All(), tens[1])
		wantList(t, "Names", x.Roll(10, from).Names(), "a")
	}
	for _, from := range []int{11, 15, 20, greatest} {
		wantSame(t, fmt.Sprint("Roll from ", from), x.Roll(10, from), &model{every: 10})
	}
	wantList(t, "it stays", x.All(), rec("a", 0, 1), rec("a", 5, 2), rec("a", 10, 3), rec("a", 15, 4), rec("b", 5, 5))
}

func TestP1003CopyAndRollStandApart(t *testing.T) {
	l := []api.Record{rec("a", 0, 1), rec("a", 6, 2), rec("b", 6, 3), rec("a", 12, 3)}
	// Each of these changes what it is done to.
	changes := []func(x *table.Table){
		func(x *table.Table) { x.Add(rec("a", 0, 9)) },
		func(x *table.Table) { x.Add(rec("a", 18, 9)) },
		func(x *table.Table) { x.Add(rec("b", 0, 9)) },
		func(x *table.Table) { x.Add(rec("c", 6, 9)) },
		func(x *table.Table) { x.Drop(6) },
		func(x *table.Table) { x.Drop(greatest) },
		func(x *table.Table) { x.Clear(0, 1) },
	}
	twins := []func(x *table.Table) *table.Table{
		func(x *table.Table) *table.Table { return x.Copy() },
		func(x *table.Table) *table.Table { return x.Roll(6, 0) },
	}
	for i, twin := range twins {
		for k, change := range changes {
			what := fmt.Sprint("twin ", i, ", change ", k)
			x := of(6, l...)
			y := twin(x)
			was := x.All()
			wantSame(t, what+": alike", y, &model{6, was})
			change(y)
			wantSame(t, what+": the twin is changed", x, &model{6, was})
			now := y.All()
			want(t, what+": it does change", slices.Equal(was, now), false)
			for _, again := range changes {
				again(x)
				wantSame(t, what+": the first one is changed", y, &model{6, now})
			}
		}
	}
}

func TestP1004RollOfRoll(t *testing.T) {
	x := table.New(2)
	for i := range 60 {
		x.Add(rec([]string{"a", "b", "c"}[i%3], i*7%50*2, i))
	}
	for _, a := range []int{2, 4, 6, 10, 12} {
		for times := range 5 {
			b := a * (times + 1)
			for _, from := range []int{least, 0, 1, b, b + 1, 3 * b} {
				once, two := x.Roll(b, from), x.Roll(a, least).Roll(b, from)
				wantList(t, fmt.Sprint("Roll ", a, " of Roll ", b), two.All(), once.All()...)
			}
			for i := range 5 {
				// From a bucket of the coarser ones on nothing but what they leave out is left out.
				wantList(t, "Roll of Roll from there on", x.Roll(a, i*b).Roll(b, i*b).All(), x.Roll(b, i*b).All()...)
			}
		}
	}
}

func TestP1004TheCountsStay(t *testing.T) {
	count := func(l []api.Record) int {
		n := 0
		for _, r := range l {
			n += r.Agg.Count
		}
		return n
	}
	x := table.New(3)
	for i := range 50 {
		x.Add(rec([]string{"a", "b"}[i%2], i*11%40*3, make([]int, i%4+1)...))
	}
	for _, every := range []int{3, 6, 9, 30, 300} {
		want(t, fmt.Sprint("of all, in ", every), count(x.Roll(every, 0).All()), count(x.All()))
		for from := 0; from <= 150; from += every {
			y := x.Copy()
			y.Drop(from)
			want(t, fmt.Sprint("from ", from, ", in ", every), count(x.Roll(every, from).All()), count(y.All()))
		}
	}
}

// wantNone wants of a table what one tells that has nothing and takes nothing.
func wantNone(t *testing.T, what string, x *table.Table) {
	t.Helper()
	want(t, what+": Add", x.Add(rec("a", 0, 1), rec("a", 1, 1)), 0)
	want(t, what+": Add of none", x.Add(), 0)
	want(t, what+": Every", x.Every(), 1)
	wantFind(t, x, "a", 0, api.Agg{}, false)
	wantList(t, what+": Range", x.Range("a", 0, 9))
	want(t, what+": Drop", x.Drop(9), 0)
	wantList(t, what+": All", x.All())
	wantList(t, what+": Names", x.Names())
	wantList(t, what+": Shard", x.Shard(0, 1))
	want(t, what+": Clear", x.Clear(0, 1), 0)
	want(t, what+": Need", x.Need(3), 0)
	want(t, what+": Len", x.Len(), 0)
}

func TestP1004NilAndZero(t *testing.T) {
	var none *table.Table
	wantNone(t, "a nil one", none)
	want(t, "Roll of a nil one", none.Roll(5, 0), nil)
	want(t, "Copy of a nil one", none.Copy(), nil)

	var zero table.Table
	wantNone(t, "a zero one", &zero)
	twin := zero.Copy()
	want(t, "Copy of a zero one is another one", twin != nil && twin != &zero, true)
	wantNone(t, "the Copy of a zero one", twin)
	for _, every := range []int{least, 0, 1, 5} {
		wantSame(t, "Roll of a zero one", zero.Roll(every, 0), &model{every: max(every, 1)})
	}
	want(t, "Add to the Roll of a zero one", zero.Roll(5, 0).Add(rec("a", 5, 1)), 1)
	wantNone(t, "a zero one, still", &zero)
}

// row is a row of numbers that look like chance, but are the same each time.
type row uint64

// next tells the next number, below n.
func (r *row) next(n int) int {
	*r = *r*6364136223846793005 + 1442695040888963407
	return int(*r>>33) % n
}

// record tells the next record: most may stand in a table of that Every, some may not.
func (r *row) record(every int) api.Record {
	x := rec([]string{"a", "b", "c", "ab", longest, "B"}[r.next(6)], r.next(7)*every, r.next(9)-4)
	if r.next(8) == 0 {
		x.Start += r.next(every+2) - 1
	}
	if r.next(12) == 0 {
		x.Agg = wrongAggs()[r.next(len(wrongAggs()))]
	}
	return x
}

func TestTableIsThatOfTheModel(t *testing.T) {
	names := []string{"a", "b", "ab", longest, "B", "d"}
	for seed := range 40 {
		r := row(seed)
		every := []int{1, 2, 3, 6}[seed%4]
		starts := []int{least, -1, 0, 1, every, 3 * every, 3*every + 1, 6 * every, greatest}
		x, m := table.New(every), &model{every: every}
		for i := range 40 {
			what := fmt.Sprint("seed ", seed, ", call ", i)
			switch at := r.next(9) * every; r.next(8) {
			case 0:
				want(t, what+": Drop", x.Drop(at/3), m.lose(func(r api.Record) bool { return r.Start < at/3 }))
			case 1:
				k, shards := r.next(3), r.next(6)-1
				want(t, what+": Clear", x.Clear(k, shards), m.lose(func(r api.Record) bool { return shard(r.Name, shards) == k }))
			default:
				var l []api.Record
				for range r.next(9) {
					l = append(l, r.record(every))
				}
				want(t, what+": Add", x.Add(l...), m.add(l...))
			}
			wantAll(t, what, x, m, names, starts)
		}
	}
}

// texts are the names of records.
func texts(l []api.Record) []string {
	var all []string
	for _, r := range l {
		all = append(all, r.Name)
	}
	return all
}

// wantApart wants texts to share no bytes.
func wantApart(t *testing.T, what string, a, b []string) {
	t.Helper()
	want(t, what+": are there any", len(a) > 0 && len(b) > 0, true)
	for _, x := range a {
		for _, y := range b {
			from, to := uintptr(unsafe.Pointer(unsafe.StringData(x))), uintptr(unsafe.Pointer(unsafe.StringData(y)))
			if from < to+uintptr(len(y)) && to < from+uintptr(len(x)) {
				t.Errorf("%s: %q and %q share their bytes", what, x, y)
			}
		}
	}
}

func TestNamesAreKeptApart(t *testing.T) {
	text := strings.Clone("a name and more: a")
	a := text[:1]
	x := of(5, rec(a, 5, 1))
	// One that stands there already is not kept by the new one's bytes either.
	x.Add(rec(text[17:], 5, 2), rec(a, 10, 3))
	answers := []func() []string{
		func() []string { return texts(x.All()) },
		func() []string { return x.Names() },
		func() []string { return texts(x.Range(a, 0, 99)) },
		func() []string { return texts(x.Shard(0, 1)) },
		func() []string { return texts(x.Copy().All()) },
		func() []string { return texts(x.Roll(10, 0).All()) },
	}
	for i, f := range answers {
		got := f()
		want(t, fmt.Sprint("answer ", i), got[0], "a")
		wantApart(t, fmt.Sprint("answer ", i, " and what was handed in"), got, []string{text})
		for k, g := range answers {
			wantApart(t, fmt.Sprint("answers ", i, " and ", k), got, g())
		}
	}
}

func TestNamesAreNotThoseHandedIn(t *testing.T) {
	// No text may be written into: but so it is seen whether it is kept.
	b := []byte("aa")
	text := unsafe.String(&b[0], len(b))
	x := of(5, rec("ab", 5, 1))
	x.Add(rec(text, 5, 2))
	x.Add(rec(text, 10, 3))
	b[0] = 'z'
	wantList(t, "Names", x.Names(), "aa", "ab")
	wantFind(t, x, "aa", 10, agg.Of(3), true)
	wantFind(t, x, text, 10, api.Agg{}, false)
}

func TestAnswersOwnTheirMemory(t *testing.T) {
	x, m := table.New(5), &model{every: 5}
	l := []api.Record{rec("a", 10, 1), rec("b", 5, 2), rec("a", 5, 3), rec("a", 10, 4), rec("B", 0, 0)}
	was := slices.Clone(l)
	x.Add(l...)
	m.add(l...)
	wantList(t, "what was handed in", l, was...)
	for i := range l {
		l[i] = rec("z", 99, 9)
	}
	wantSame(t, "what was handed in changes", x, m)

	for i, got := range [][]api.Record{x.All(), x.Range("a", 0, 99), x.Shard(0, 1), x.Range("a", 0, 6)} {
		for k := range got {
			got[k] = rec("z", 99, 9)
		}
		got = append(got, rec("z", 0, 1), rec("z", 0, 2))
		wantSame(t, fmt.Sprint("answer ", i, " changes"), x, m)
		want(t, "it has changed", got[0].Name, "z")
	}
	names := x.Names()
	names[0] = "z"
	wantSame(t, "the names that were told change", x, m)

	all, part := x.All(), x.Range("a", 0, 99)
	x.Add(rec("a", 0, 7), rec("a", 5, 7))
	x.Drop(5)
	x.Clear(0, 1)
	wantList(t, "an answer when the table changes", all, m.l...)
	wantList(t, "a Range when the table changes", part, m.l[:2]...)
}

func TestReadme(t *testing.T) {
	x := table.New(10)
	at := func(start, v int) api.Record { return api.Record{Name: "cpu", Start: start, Agg: agg.Of(v)} }
	want(t, "Add", x.Add(at(20, 3), at(10, 4), at(20, 5), at(25, 6)), 3)
	wantFind(t, x, "cpu", 20, agg.Of(3, 5), true)
	wantList(t, "Range", x.Range("cpu", 10, 20), at(10, 4))
	wantList(t, "Roll", x.Roll(60, 0).All(), rec("cpu", 0, 4, 3, 5))
	want(t, "Need", x.Need(2), 1)
	want(t, "Drop", x.Drop(20), 1)
}
