package name_test

import (
	"hash/fnv"
	"math"
	"math/big"
	"slices"
	"strconv"
	"strings"
	"testing"
	"unsafe"

	"sediment/api"
	"sediment/name"
)

const (
	letters = "abcdefghijklmnopqrstuvwxyz0123456789._-" // all bytes that a name may have
	longest = "0123456789.abc-"                         // a name of as many bytes as it may have
)

// want holds an answer against what is wanted.
func want[T comparable](t *testing.T, what string, got, wanted T) {
	t.Helper()
	if got != wanted {
		t.Errorf("%s: %v, not %v", what, got, wanted)
	}
}

// wantOrder holds what Order tells of l against what is wanted, and looks whether l stays.
func wantOrder(t *testing.T, l []string, wanted ...string) {
	t.Helper()
	was := slices.Clone(l)
	if got := name.Order(l...); !slices.Equal(got, wanted) {
		t.Errorf("Order of %q: %q, not %q", was, got, wanted)
	}
	if !slices.Equal(l, was) {
		t.Errorf("Order of %q turned it into %q", was, l)
	}
}

// of tells a text, for a failure's text.
func of(s string) string { return "of " + strconv.Quote(s) }

// at is a record of that Name and Start.
func at(s string, start int) api.Record { return api.Record{Name: s, Start: start} }

// texts are of all kinds, rising: names, and such as are none.
func texts() []string {
	return []string{"", "\x00", " ", "-", ".", "0", longest, longest + "\xff", "9", "A", "Z", "Zz", "_", "a", "a\x00", "a-", "a.", "a0", "aa", "aaa", "ab", "b", "foobar", "z", "{", "\u00e9", "\u20ac", "\xff", "\xff\xff"}
}

func TestP501ValidOfOneByte(t *testing.T) {
	for i := range 256 {
		c := string([]byte{byte(i)})
		is := strings.Contains(letters, c)
		want(t, "Valid "+of(c), name.Valid(c), is)
		want(t, "Valid "+of("a"+c+"z"), name.Valid("a"+c+"z"), is)
		for k := range api.MaxName {
			s := longest[:k] + c + longest[k+1:]
			want(t, "Valid "+of(s), name.Valid(s), is)
		}
	}
}

func TestP501ValidOfHowManyBytes(t *testing.T) {
	want(t, "the bytes of the longest", len(longest), api.MaxName)
	for _, c := range letters {
		for n := range 40 {
			s := strings.Repeat(string(c), n)
			want(t, "Valid "+of(s), name.Valid(s), n >= 1 && n <= 15)
		}
	}
	want(t, "Valid of the longest", name.Valid(longest), true)
	want(t, "Valid of one byte more", name.Valid(longest+"a"), false)
	want(t, "Valid of a long text", name.Valid(strings.Repeat("a", 1<<20)), false)
	// It is bytes that are counted, and no length is taken modulo 256.
	want(t, "Valid of 257 bytes", name.Valid(strings.Repeat("a", 257)), false)
	want(t, "Valid of 5 runes of 3 bytes", name.Valid("\u20ac\u20ac\u20ac\u20ac\u20ac"), false)
}

func TestP501ValidOfSeveral(t *testing.T) {
	want(t, "Valid of none", name.Valid(), true)
	want(t, "Valid of a nil list", name.Valid([]string(nil)...), true)
	good := []string{"a", "0._-z", longest, "a", "..", "-"}
	want(t, "Valid of good ones", name.Valid(good...), true)
	for _, wrong := range []string{"", "A", "a b", "\u00e9", "{", "`", "/", ":", ",", "\x00", "a\n", longest + "0"} {
		want(t, "Valid "+of(wrong), name.Valid(wrong), false)
		want(t, "Valid of two wrong ones", name.Valid(wrong, wrong), false)
		for i := range len(good) + 1 {
			l := slices.Insert(slices.Clone(good), i, wrong)
			want(t, "Valid with one wrong "+of(wrong), name.Valid(l...), false)
			want(t, "what was handed in", l[i], wrong)
		}
	}
}

func TestP501Hash(t *testing.T) {
	want(t, "the example", name.Hash("a"), 0xe40c292c)
	want(t, "nothing", name.Hash(""), 2166136261)
	want(t, "foobar", name.Hash("foobar"), 0xbf9cf968)
	l := texts()
	text := ""
	for i := range 600 {
		text += string([]byte{byte(i * 73), byte(i)})
		l = append(l, text, string([]byte{byte(i)}))
	}
	for _, s := range append(l, strings.Repeat("a long text", 20000)) {
		h := fnv.New32a()
		h.Write([]byte(s))
		want(t, "Hash of a text of "+strconv.Itoa(len(s))+" bytes", name.Hash(s), h.Sum32())
	}
}

func TestP501Shard(t *testing.T) {
	want(t, "a, 8", name.Shard("a", 8), 4)
	want(t, "a, 7", name.Shard("a", 7), 0xe40c292c%7)
	want(t, "foobar, 7", name.Shard("foobar", 7), 0xbf9cf968%7)
	want(t, "nothing, 10", name.Shard("", 10), 1)
	// Hashes whose highest bit is there are no numbers below 0.
	want(t, "a, more than any hash", name.Shard("a", 1<<32), 0xe40c292c)
	want(t, "a, just its hash", name.Shard("a", 0xe40c292c), 0)
	want(t, "a, one more than its hash", name.Shard("a", 0xe40c292d), 0xe40c292c)
	want(t, "a, as many as an int holds", name.Shard("a", math.MaxInt), 0xe40c292c)
	want(t, "a, 2^32 and 1", name.Shard("a", 1<<32+1), 0xe40c292c)
	for _, s := range texts() {
		for _, shards := range []int{1, 2, 3, 4, 5, 6, 7, 8, 9, 255, 256, 257, 1 << 16, 1<<31 - 1, 1 << 31, 1<<31 + 1, 1<<32 - 1, 1 << 32, 1<<32 + 3, 1 << 62, math.MaxInt} {
			wanted := new(big.Int).Mod(big.NewInt(int64(name.Hash(s))), big.NewInt(int64(shards)))
			want(t, "Shard "+of(s)+", "+strconv.Itoa(shards), name.Shard(s, shards), int(wanted.Int64()))
		}
	}
}

func TestP501ShardOfNone(t *testing.T) {
	for _, s := range texts() {
		for _, shards := range []int{0, -1, -4, -8, -1 << 31, -1 << 32, math.MinInt, math.MinInt + 1} {
			want(t, "Shard "+of(s)+", "+strconv.Itoa(shards), name.Shard(s, shards), 0)
		}
	}
}

func TestP502LessByNameThenStart(t *testing.T) {
	starts := []int{math.MinInt, math.MinInt + 1, -1 << 40, -10, -1, 0, 1, 10, 1 << 40, math.MaxInt - 1, math.MaxInt}
	for i, s := range texts() {
		for k, o := range texts() {
			for m, from := range starts {
				for n, to := range starts {
					is := i < k || i == k && m < n
					what := "Less of " + strconv.Quote(s) + ", " + strconv.Itoa(from) + " and " + strconv.Quote(o) + ", " + strconv.Itoa(to)
					want(t, what, name.Less(at(s, from), at(o, to)), is)
				}
			}
		}
	}
	want(t, "a great letter ahead of a small one", name.Less(at("Z", 1), at("a", 0)), true)
	want(t, "the longer one behind", name.Less(at("aa", 1), at("a", 9)), false)
	want(t, "one alike", name.Less(at("a", 2), at("a", 2)), false)
}

func TestP502LessAsksForNothingElse(t *testing.T) {
	small := api.Agg{Count: 1, Hi: -1, Lo: 1, Min: -9, Max: -9}
	great := api.Agg{Count: 9, Hi: 1, Lo: 9, Min: 9, Max: 9}
	for _, x := range []struct{ a, b api.Agg }{{small, great}, {great, small}, {api.Agg{}, great}, {great, api.Agg{}}} {
		a, b := at("a", 2), at("a", 2)
		a.Agg, b.Agg = x.a, x.b
		want(t, "Less of two whose Aggs alone differ", name.Less(a, b), false)
		b.Start = 3
		want(t, "Less of the one ahead", name.Less(a, b), true)
		want(t, "Less of the one behind", name.Less(b, a), false)
		b.Start, b.Name = 1, "b"
		want(t, "Less of the one ahead by its name", name.Less(a, b), true)
		want(t, "Less of the one behind by its name", name.Less(b, a), false)
	}
}

func TestP502Order(t *testing.T) {
	wantOrder(t, nil)
	wantOrder(t, []string{})
	wantOrder(t, []string{""}, "")
	wantOrder(t, []string{"a"}, "a")
	wantOrder(t, []string{"a", "a"}, "a")
	wantOrder(t, []string{"", "", ""}, "")
	wantOrder(t, []string{"b", "a"}, "a", "b")
	wantOrder(t, []string{"b", "a", "b", "", "aa"}, "", "a", "aa", "b")
	wantOrder(t, []string{"a", "b", "a"}, "a", "b")
	wantOrder(t, []string{"a10", "a9", "a1"}, "a1", "a10", "a9")
	wantOrder(t, []string{"\u00e9", "e", "Z", "\xff", "\xc3", "a"}, "Z", "a", "e", "\xc3", "\u00e9", "\xff")
	wantOrder(t, []string{"a\x00", "a", "a\x00", "\x00a"}, "\x00a", "a", "a\x00")
}

func TestP502OrderHoweverTheyCome(t *testing.T) {
	rising := texts()
	wantOrder(t, rising, rising...)
	falling := slices.Clone(rising)
	slices.Reverse(falling)
	wantOrder(t, falling, rising...)
	wantOrder(t, slices.Concat(rising, rising), rising...)
	wantOrder(t, slices.Concat(rising, falling, falling), rising...)
	for i := range rising {
		wantOrder(t, slices.Concat(rising[i:], rising[:i]), rising...)
		wantOrder(t, slices.Concat(rising[i:], falling, rising[i:]), rising...)
		wantOrder(t, slices.Repeat(rising[i:i+1], i+1), rising[i])
	}
	var many, wanted []string
	for i := range 5000 {
		many = append(many, strconv.Itoa(10000+i*7919%5000), strconv.Itoa(10000+i*31%5000))
		wanted = append(wanted, strconv.Itoa(10000+i))
	}
	wantOrder(t, many, wanted...)
}

func TestP502OrderOfAllThatIsRising(t *testing.T) {
	l := name.Order(append(texts(), texts()...)...)
	for i := 1; i < len(l); i++ {
		want(t, "Less of "+strconv.Quote(l[i-1])+" and the next one", name.Less(at(l[i-1], 0), at(l[i], 0)), true)
	}
}

func TestP502OrderIsNew(t *testing.T) {
	whole := []string{"c", "a", "b", "a", "kept", "kept too"}
	got := name.Order(whole[:4]...)
	got = append(got, "more", "and more", "and still more")
	got[0], got[1] = "x", "y"
	if wanted := []string{"c", "a", "b", "a", "kept", "kept too"}; !slices.Equal(whole, wanted) {
		t.Errorf("behind a change of the answer what was handed in is %q, not %q", whole, wanted)
	}
	rising := []string{"a", "b", "c"}
	one, two := name.Order(rising...), name.Order(rising...)
	rising[0], one[1] = "x", "y"
	if !slices.Equal(one, []string{"a", "y", "c"}) || !slices.Equal(two, []string{"a", "b", "c"}) {
		t.Errorf("answers are not their own: %q, %q", one, two)
	}
	for _, s := range texts() {
		o := name.Order(s)[0]
		if s != "" && unsafe.StringData(s) == unsafe.StringData(o) {
			t.Errorf("the text %q shares its bytes with the one that was handed in", s)
		}
	}
}
