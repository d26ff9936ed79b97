package policy_test

import (
	"fmt"
	"regexp"
	"slices"
	"strconv"
	"strings"
	"testing"
	"unsafe"

	"sediment/api"
	"sediment/policy"
)

const web = "policy web\ntier raw every 1 keep 100 shards 2\ntier tens every 10 keep 1000 shards 1\n"

// want holds an answer against what is wanted.
func want[T comparable](t *testing.T, what string, got, wanted T) {
	t.Helper()
	if got != wanted {
		t.Errorf("%s: %v, not %v", what, got, wanted)
	}
}

// of tells a text, for a failure's text.
func of(s string) string {
	if len(s) > 300 {
		return "of a text of " + strconv.Itoa(len(s)) + " bytes"
	}
	return "of " + strconv.Quote(s)
}

// named is a policy of that name and those tiers.
func named(s string, tiers ...api.Tier) api.Policy { return api.Policy{Name: s, Tiers: tiers} }

// tier is a tier.
func tier(s string, every, keep, shards int) api.Tier {
	return api.Tier{Name: s, Every: every, Keep: keep, Shards: shards}
}

// webPolicy is the policy of the text web.
func webPolicy() api.Policy { return named("web", tier("raw", 1, 100, 2), tier("tens", 10, 1000, 1)) }

// alike tells whether two policies are the same in all, whatever Same tells; no tiers and a nil list of them are one.
func alike(a, b api.Policy) bool { return a.Name == b.Name && slices.Equal(a.Tiers, b.Tiers) }

// answer is what Parse and Read tell.
type answer struct {
	p  api.Policy
	e  api.Errno
	at int
}

// fault is an answer that is an error.
func fault(e api.Errno, at int) answer { return answer{e: e, at: at} }

// wantAnswer holds what Parse or Read tells against what is wanted.
func wantAnswer(t *testing.T, what string, got, wanted answer) {
	t.Helper()
	if got.e != wanted.e || got.at != wanted.at || !alike(got.p, wanted.p) {
		t.Errorf("%s: %v, not %v", what, got, wanted)
	}
}

// parse is what Parse tells.
func parse(text string) answer {
	p, e, at := policy.Parse(text)
	return answer{p, e, at}
}

// read is what Read tells.
func read(text string) answer {
	p, e, at := policy.Read(text)
	return answer{p, e, at}
}

// wantParse holds what Parse tells of a text that it takes against what is wanted.
func wantParse(t *testing.T, text string, wanted api.Policy) {
	t.Helper()
	wantAnswer(t, "Parse "+of(text), parse(text), answer{p: wanted})
}

// wantNoParse wants ErrPolicy and that line, of Parse and of Read.
func wantNoParse(t *testing.T, text string, line int) {
	t.Helper()
	wantAnswer(t, "Parse "+of(text), parse(text), fault(api.ErrPolicy, line))
	wantAnswer(t, "Read "+of(text), read(text), fault(api.ErrPolicy, line))
}

// wantCheck holds what Check tells against what is wanted: a tier's number, 0 of the whole, or -1, if it may be.
func wantCheck(t *testing.T, p api.Policy, wanted int) {
	t.Helper()
	e, at := policy.Check(p)
	if wanted < 0 {
		want(t, fmt.Sprint("Check of ", p, ": the error"), e, api.OK)
		want(t, fmt.Sprint("Check of ", p, ": the tier"), at, 0)
		return
	}
	want(t, fmt.Sprint("Check of ", p, ": the error"), e, api.ErrRule)
	want(t, fmt.Sprint("Check of ", p, ": the tier"), at, wanted)
}

var (
	headLine = regexp.MustCompile(`^policy ([^ ]+)$`)
	tierLine = regexp.MustCompile(`^tier ([^ ]+) every (0|-?[1-9][0-9]{0,17}) keep (0|-?[1-9][0-9]{0,17}) shards (0|-?[1-9][0-9]{0,17})$`)
	noByte   = regexp.MustCompile(`[^\t -~]`)
	remark   = regexp.MustCompile(`(^|[ \t])#.*$`)
)

// number is the number that digits tell.
func number(s string) int {
	v, err := strconv.Atoi(s)
	if err != nil {
		panic(err)
	}
	return v
}

// model is what Parse is to tell, worked out by patterns, line by line.
func model(text string) answer {
	if len(text) > 4000 {
		return fault(api.ErrLong, 0)
	}
	lines := strings.Split(text, "\n")
	for i, l := range lines {
		if noByte.MatchString(l) {
			return fault(api.ErrPolicy, i+1)
		}
	}
	var p api.Policy
	head := false
	for i, l := range lines {
		l = strings.Join(strings.Fields(remark.ReplaceAllString(l, "")), " ")
		first, next := headLine.FindStringSubmatch(l), tierLine.FindStringSubmatch(l)
		switch {
		case l == "":
		case !head && first != nil:
			head, p.Name = true, first[1]
		case head && next != nil && len(p.Tiers) < 5:
			p.Tiers = append(p.Tiers, tier(next[1], number(next[2]), number(next[3]), number(next[4])))
		default:
			return fault(api.ErrPolicy, i+1)
		}
	}
	if !head {
		return fault(api.ErrPolicy, 1)
	}
	return answer{p: p}
}

// wantModel holds what Parse tells of a text against the model.
func wantModel(t *testing.T, text string) {
	t.Helper()
	wantAnswer(t, "Parse "+of(text), parse(text), model(text))
}

func TestP801Example(t *testing.T) {
	wantParse(t, web, webPolicy())
	wantParse(t, strings.TrimSuffix(web, "\n"), webPolicy())
}

func TestP801BlanksAndRemarks(t *testing.T) {
	wantParse(t, "# of the web\n\n  policy\tweb # its name\n \t \n\ttier  raw every 1 keep 100 shards 2 #2\n#\ntier tens every 10 keep 1000 shards 1 \t", webPolicy())
	// A # within a word begins no remark.
	wantParse(t, "policy a#b", named("a#b"))
	wantNoParse(t, "policy a\ntier r every 1 keep 1 shards 1#", 2)
	wantNoParse(t, "policy #a", 1)
}

func TestP801AsTheyStand(t *testing.T) {
	wantParse(t, "policy x", named("x"))
	wantParse(t, "policy policy\ntier tier every 0 keep -1 shards 999999999999999999", named("policy", tier("tier", 0, -1, 999999999999999999)))
	wantParse(t, "policy A!\ntier ~ every -999999999999999999 keep 7 shards 0", named("A!", tier("~", -999999999999999999, 7, 0)))
	wantParse(t, "policy a-name-that-is-much-longer-than-a-name-may-be\ntier every every 3 keep 2 shards 1\ntier every every 3 keep 2 shards 1", named("a-name-that-is-much-longer-than-a-name-may-be", tier("every", 3, 2, 1), tier("every", 3, 2, 1)))
}

func TestP801WordsFirst(t *testing.T) {
	wantAnswer(t, "Parse of 4,001 blanks", parse(strings.Repeat(" ", 4001)), fault(api.ErrLong, 0))
	wantAnswer(t, "Parse of 4,001 bytes 0", parse(strings.Repeat("\x00", 4001)), fault(api.ErrLong, 0))
	wantAnswer(t, "Read of 4,001 blanks", read(strings.Repeat(" ", 4001)), fault(api.ErrLong, 0))
	wantParse(t, web+strings.Repeat("\n", 4000-len(web)), webPolicy())
	wantAnswer(t, "Parse of a text of 4,001 bytes", parse(web+strings.Repeat("\n", 4001-len(web))), fault(api.ErrLong, 0))
	// A byte that no text has is told ahead of a wrong line above it.
	wantNoParse(t, "x\n\n\x01", 3)
	wantNoParse(t, "policy a\n# \x7f", 2)
	wantNoParse(t, "policy a\r\n", 1)
	wantNoParse(t, "policy a\n\n\ntier é every 1 keep 1 shards 1", 4)
}

func TestP801NoWords(t *testing.T) {
	for _, text := range []string{"", " ", "\n", "\n\n\n", "#", "\n# policy a\n", "\t\n \n#"} {
		wantNoParse(t, text, 1)
	}
}

func TestP801TheFirstLine(t *testing.T) {
	for _, line := range []string{"policy", "policy a b", "policy a policy b", "Policy a", "policies a", "polic y", "a policy", "x", "tier", "tier r every 1 keep 1 shards 1", "policy a tier r every 1 keep 1 shards 1"} {
		wantNoParse(t, line, 1)
		wantNoParse(t, "\n# x\n\n  "+line+"\npolicy a\nx", 4)
	}
	wantNoParse(t, "policy\na", 1)
}

func TestP801TheOtherLines(t *testing.T) {
	for _, line := range []string{"policy b", "x", "tier", "tier r", "tier r every 1", "tier r every 1 keep 1", "tier r every 1 keep 1 shards", "tier r every 1 keep 1 shards 1 1", "tier r every 1 keep 1 shards 1 tier s every 2 keep 2 shards 1",
		"tier every 1 keep 1 shards 1", "Tier r every 1 keep 1 shards 1", "tier r Every 1 keep 1 shards 1", "tier r every 1 keeps 1 shards 1", "tier r every 1 keep 1 shard 1", "tier r keep 1 every 1 shards 1", "tier r every 1 shards 1 keep 1", "r tier every 1 keep 1 shards 1",
		"policy r every 1 keep 1 shards 1", "tier r every 1 keep 1"} {
		wantNoParse(t, "policy a\n"+line, 2)
		wantNoParse(t, "policy a\ntier q every 1 keep 1 shards 1\n\n\n\t"+line+" # x\ntier q every 1 keep 1 shards 1\nx", 5)
	}
}

func TestP801Numbers(t *testing.T) {
	for _, n := range []string{"0", "1", "-1", "10", "-10", "999999999999999999", "-999999999999999999"} {
		wantParse(t, "policy a\ntier r every "+n+" keep 1 shards 2", named("a", tier("r", number(n), 1, 2)))
		wantParse(t, "policy a\ntier r every 1 keep "+n+" shards 2", named("a", tier("r", 1, number(n), 2)))
		wantParse(t, "policy a\ntier r every 1 keep 2 shards "+n, named("a", tier("r", 1, 2, number(n))))
	}
	for _, n := range []string{"x", "-", "--1", "+1", "01", "-0", "00", "-01", "1x", "0x1", "1.0", "1e3", "1_0", "1,000", "1-", "1000000000000000000", "-1000000000000000000", "9223372036854775807", "99999999999999999999999", "every", "shards"} {
		wantNoParse(t, "policy a\ntier r every "+n+" keep 1 shards 2", 2)
		wantNoParse(t, "policy a\ntier r every 1 keep "+n+" shards 2", 2)
		wantNoParse(t, "policy a\ntier r every 1 keep 2 shards "+n, 2)
	}
}

func TestP801TooManyTiers(t *testing.T) {
	const line = "tier r every 1 keep 1 shards 1\n"
	r := tier("r", 1, 1, 1)
	five := "policy a\n\n" + strings.Repeat(line, 5)
	wantParse(t, five, named("a", r, r, r, r, r))
	wantNoParse(t, five+"\n\n"+line, 10)
	wantNoParse(t, five+line+line, 8)
	wantNoParse(t, five+"\n"+line+"x", 9)
	wantNoParse(t, five+"x\n"+line, 8)
	wantNoParse(t, five+"tier", 8)
	wantNoParse(t, "policy a\nx\n"+strings.Repeat(line, 6), 2)
}

// each calls f of all lists of at most n of these parts.
func each(parts []string, n int, f func(l []string)) {
	lists := [][]string{nil}
	for len(lists) > 0 {
		l := lists[0]
		lists = lists[1:]
		f(l)
		for _, x := range parts {
			if len(l) < n {
				lists = append(lists, append(slices.Clone(l), x))
			}
		}
	}
}

func TestP801Lines(t *testing.T) {
	lines := []string{"", " # x", "policy a", "policy", "tier r every 1 keep 2 shards 3", "tier s every -1 keep x shards 3", "\x7f"}
	each(lines, 5, func(l []string) { wantModel(t, strings.Join(l, "\n")) })
	const line = "tier r every 1 keep 2 shards 3"
	each([]string{"", line, "x"}, 8, func(l []string) { wantModel(t, "policy a\n"+strings.Join(l, "\n")) })
}

func TestP801Words(t *testing.T) {
	parts := []string{"policy", "tier", "every", "keep", "shards", "1", "-0", "a", "#", "\n"}
	for _, text := range []string{"policy a\n", "policy a\ntier b every 1 keep 2 shards 3\ntier c every 4 keep 5 shards 6\n"} {
		words := strings.Split(strings.ReplaceAll(text, "\n", " \n "), " ")
		for i := range words {
			wantModel(t, strings.Join(slices.Delete(slices.Clone(words), i, i+1), " "))
			for _, x := range parts {
				wantModel(t, strings.Join(slices.Insert(slices.Clone(words), i, x), " "))
				wantModel(t, strings.Join(slices.Replace(slices.Clone(words), i, i+1, x), " "))
			}
			for j := range i {
				other := slices.Clone(words)
				other[i], other[j] = other[j], other[i]
				wantModel(t, strings.Join(other, " "))
			}
		}
	}
	each([]string{"policy", "tier", "a", "1", "\n", "#"}, 5, func(l []string) { wantModel(t, strings.Join(l, " ")) })
}

func TestP801EveryByte(t *testing.T) {
	for i := range len(web) {
		wantModel(t, web[:i])
		wantModel(t, web[i:])
		for c := range 256 {
			wantModel(t, web[:i]+string([]byte{byte(c)})+web[i:])
			wantModel(t, web[:i]+string([]byte{byte(c)})+web[i+1:])
		}
	}
}

func TestP802May(t *testing.T) {
	wantCheck(t, webPolicy(), -1)
	wantCheck(t, named("a", tier("a", 1, 1, 1)), -1)
	wantCheck(t, named("0.z_9-", tier("-", 1, api.MaxKeep, api.MaxShards)), -1)
	wantCheck(t, named(strings.Repeat("n", api.MaxName), tier(strings.Repeat("t", api.MaxName), 1, 5, 1)), -1)
	wantCheck(t, named("a", tier("a", 1, 1, 1), tier("b", 2, 1, 8), tier("c", 4, 1, 1), tier("d", 16, 2, 7), tier("e", 1000000, 1000000, 1)), -1)
}

func TestP802TheWhole(t *testing.T) {
	r := tier("r", 1, 1, 1)
	for _, s := range []string{"", "A", "a b", "a!", "é", "a\x00", "a\n", strings.Repeat("n", api.MaxName+1)} {
		wantCheck(t, named(s, r), 0)
		wantCheck(t, named(s), 0)
		wantCheck(t, named(s, api.Tier{}), 0)
	}
	wantCheck(t, api.Policy{}, 0)
	wantCheck(t, named("a"), 0)
	wantCheck(t, api.Policy{Name: "a", Tiers: []api.Tier{}}, 0)
	six := []api.Tier{r, tier("s", 2, 1, 1), tier("t", 4, 1, 1), tier("u", 8, 1, 1), tier("v", 16, 1, 1), tier("w", 32, 1, 1)}
	wantCheck(t, named("a", six...), 0)
	wantCheck(t, named("a", six[:5]...), -1)
	wantCheck(t, named("a", append([]api.Tier{{}}, six...)...), 0)
	wantCheck(t, named("a", make([]api.Tier, 100)...), 0)
}

func TestP802Names(t *testing.T) {
	a, b, c := tier("a", 1, 1, 1), tier("b", 2, 1, 1), tier("c", 4, 1, 1)
	called := func(x api.Tier, s string) api.Tier {
		x.Name = s
		return x
	}
	for _, s := range []string{"", "B", "b b", "#", "b\xff", strings.Repeat("b", api.MaxName+1)} {
		wantCheck(t, named("p", called(a, s), b, c), 1)
		wantCheck(t, named("p", a, called(b, s), c), 2)
		wantCheck(t, named("p", a, b, called(c, s)), 3)
	}
	wantCheck(t, named("p", a, called(b, "a"), c), 2)
	wantCheck(t, named("p", a, b, called(c, "a")), 3)
	wantCheck(t, named("p", a, b, called(c, "b")), 3)
	wantCheck(t, named("p", a, called(b, "a"), called(c, "a")), 2)
	// The name of the policy is none of a tier.
	wantCheck(t, named("a", a, b, c), -1)
}

func TestP802Every(t *testing.T) {
	for _, n := range []int{-1 << 63, -2, -1, 0, 2, 10, api.MaxKeep, 1<<63 - 1} {
		wantCheck(t, named("p", tier("a", n, 10, 1)), 1)
		wantCheck(t, named("p", tier("a", n, 10, 1), tier("b", 0, 0, 0)), 1)
	}
	next := func(ahead, every int) api.Policy {
		return named("p", tier("a", 1, 10, 1), tier("b", ahead, 10, 1), tier("c", every, 10, 1))
	}
	for _, n := range []int{-1 << 63, -12, -6, -1, 0, 1, 3, 5, 6, 7, 9, 11, 13, 1000001, 1000002, 6000000, 1<<63 - 1} {
		wantCheck(t, next(6, n), 3)
	}
	for _, n := range []int{12, 18, 24, 600, 999996} {
		wantCheck(t, next(6, n), -1)
	}
	wantCheck(t, next(2, 1000000), -1)
	wantCheck(t, next(2, 1000002), 3)
	wantCheck(t, next(1000000, 1000000), 3)
	wantCheck(t, next(1000000, 2000000), 3)
	wantCheck(t, next(1000001, 2000002), 2)
	wantCheck(t, next(1, 2), 2)
	// A multiple of the one ahead, not of those ahead of that alone.
	wantCheck(t, next(4, 6), 3)
	wantCheck(t, next(500001, 1000002), 3)
	// Every may be above Keep.
	wantCheck(t, next(20, 40), -1)
}

func TestP802Keep(t *testing.T) {
	for _, n := range []int{-1 << 63, -1, 0, 1000001, 1<<63 - 1} {
		wantCheck(t, named("p", tier("a", 1, n, 1)), 1)
		wantCheck(t, named("p", tier("a", 1, 1, 1), tier("b", 2, n, 1)), 2)
	}
	next := func(ahead, keep int) api.Policy {
		return named("p", tier("a", 1, 5, 1), tier("b", 2, ahead, 1), tier("c", 4, keep, 1))
	}
	wantCheck(t, next(5, 5), -1)
	wantCheck(t, next(10, 10), -1)
	wantCheck(t, next(10, 9), 3)
	wantCheck(t, next(10, 5), 3)
	wantCheck(t, next(4, 10), 2)
	wantCheck(t, next(999999, 1000000), -1)
	wantCheck(t, next(1000000, 999999), 3)
	wantCheck(t, next(1000000, 1000000), -1)
}

func TestP802Shards(t *testing.T) {
	for _, n := range []int{-1 << 63, -1, 0, 9, 1<<63 - 1} {
		wantCheck(t, named("p", tier("a", 1, 5, n), tier("b", 2, 5, 1)), 1)
		wantCheck(t, named("p", tier("a", 1, 5, 1), tier("b", 2, 5, n)), 2)
	}
	for n := 1; n <= 8; n++ {
		wantCheck(t, named("p", tier("a", 1, 5, n), tier("b", 2, 5, 9-n)), -1)
	}
}

// lawful is what Check is to tell of tiers: the number of the first one that may not be; -1, if all may.
func lawful(tiers []api.Tier) int {
	names := map[string]int{}
	every, keep := 0, 1
	for i, x := range tiers {
		names[x.Name]++
		fine := x.Every == 1
		if i > 0 {
			fine = every > 0 && x.Every/every*every == x.Every && x.Every/every >= 2 && x.Every <= 1000000
		}
		if !fine || names[x.Name] > 1 || x.Name != "a" && x.Name != "b" || x.Keep < keep || x.Keep > 1000000 || x.Shards < 1 || x.Shards > 8 {
			return i + 1
		}
		every, keep = x.Every, x.Keep
	}
	return -1
}

// someTiers are tiers of all these numbers.
func someTiers(names []string, every, keep, shards []int) []api.Tier {
	var l []api.Tier
	for _, s := range names {
		for _, e := range every {
			for _, k := range keep {
				for _, n := range shards {
					l = append(l, tier(s, e, k, n))
				}
			}
		}
	}
	return l
}

func TestP802All(t *testing.T) {
	first := someTiers([]string{"a", "b", "B"}, []int{-1, 0, 1, 2}, []int{0, 1, 2, 1000000, 1000001}, []int{0, 1, 8, 9})
	next := someTiers([]string{"a", "b", ""}, []int{-4, 0, 1, 2, 3, 1000000, 1000001}, []int{-1, 1, 2, 3, 1000000, 1000001}, []int{0, 1, 8, 9})
	for _, x := range first {
		wantCheck(t, named("p", x), lawful([]api.Tier{x}))
		for _, y := range next {
			if e, at := policy.Check(named("p", x, y)); (e == api.OK) != (lawful([]api.Tier{x, y}) < 0) || e != api.OK && (e != api.ErrRule || at != lawful([]api.Tier{x, y})) {
				t.Errorf("Check of tiers %v, %v: %v, %v", x, y, e, at)
			}
		}
	}
	for e := -3; e < 40; e++ {
		for f := -3; f < 80; f++ {
			l := []api.Tier{tier("a", 1, 5, 1), tier("b", e, 5, 1), tier("c", f, 5, 1)}
			wanted := lawful(l[:2])
			if wanted < 0 && (f <= e || f%e != 0) {
				wanted = 3
			}
			wantCheck(t, named("p", l...), wanted)
		}
	}
}

func TestP802TheFirstOne(t *testing.T) {
	good := []api.Tier{tier("a", 1, 1, 1), tier("b", 2, 2, 1), tier("c", 4, 3, 1), tier("d", 8, 4, 1), tier("e", 16, 5, 1)}
	for bad := range 1 << len(good) {
		l := slices.Clone(good)
		wanted := -1
		for i := len(l) - 1; i >= 0; i-- {
			if bad>>i&1 > 0 {
				l[i].Shards, wanted = 0, i+1
			}
		}
		wantCheck(t, named("p", l...), wanted)
	}
}

// wantPrint holds a policy's text against what is wanted.
func wantPrint(t *testing.T, p api.Policy, wanted string) {
	t.Helper()
	s, e := policy.Print(p)
	want(t, fmt.Sprint("Print of ", p, ": the error"), e, api.OK)
	want(t, fmt.Sprint("Print of ", p), s, wanted)
}

func TestP803Print(t *testing.T) {
	wantPrint(t, webPolicy(), web)
	wantPrint(t, named("p", tier("every", 1, 1000000, 8)), "policy p\ntier every every 1 keep 1000000 shards 8\n")
	wantPrint(t, named("tier", tier("a", 1, 7, 1), tier("b", 2, 7, 2), tier("c", 6, 8, 3), tier("d", 12, 9, 4), tier("e", 1000000-4, 10, 5)),
		"policy tier\ntier a every 1 keep 7 shards 1\ntier b every 2 keep 7 shards 2\ntier c every 6 keep 8 shards 3\ntier d every 12 keep 9 shards 4\ntier e every 999996 keep 10 shards 5\n")
	for _, p := range []api.Policy{{}, named("a"), named("A", tier("a", 1, 1, 1)), named("a", tier("a", 2, 1, 1)), named("a", tier("a", 1, 1, 1), tier("a", 2, 1, 1)), named("a", make([]api.Tier, 6)...)} {
		s, e := policy.Print(p)
		want(t, fmt.Sprint("Print of ", p, ": the error"), e, api.ErrRule)
		want(t, fmt.Sprint("Print of ", p), s, "")
	}
}

func TestP803Read(t *testing.T) {
	wantAnswer(t, "Read "+of(web), read(web), answer{p: webPolicy()})
	rules := []struct {
		text string
		at   int
	}{
		{"policy a", 0},
		{"policy A\ntier r every 1 keep 1 shards 1", 0},
		{"policy much-too-long-a-name\ntier r every 1 keep 1 shards 1", 0},
		{"\n\n\npolicy a\ntier r every 2 keep 1 shards 1", 1},
		{"\npolicy a\n\ntier R every 1 keep 1 shards 1", 1},
		{"policy a\ntier r every 1 keep 0 shards 1", 1},
		{"policy a\ntier r every 1 keep 1 shards 9", 1},
		{"policy a\n\n\ntier r every 1 keep 1 shards 1\n\ntier r every 2 keep 1 shards 1", 2},
		{"policy a\ntier r every 1 keep 1 shards 1\ntier s every 2 keep 1 shards 1\ntier t every 3 keep 1 shards 1", 3},
		{"policy a\ntier r every 1 keep 2 shards 1\ntier s every 2 keep 1 shards 1\ntier t every 3 keep 1 shards 1", 2},
	}
	for _, x := range rules {
		wantAnswer(t, "Read "+of(x.text), read(x.text), fault(api.ErrRule, x.at))
	}
	// A line that is none is told ahead of a tier that may not be.
	wantNoParse(t, "policy A\ntier r every 2 keep 1 shards 1\nx", 3)
}

func TestP803Same(t *testing.T) {
	all := []api.Policy{{}, named("a"), named("b"), named("", api.Tier{}), named("a", api.Tier{}), named("a", api.Tier{}, api.Tier{}),
		named("a", tier("r", 1, 2, 3)), named("b", tier("r", 1, 2, 3)), named("a", tier("s", 1, 2, 3)), named("a", tier("r", 2, 2, 3)), named("a", tier("r", 1, 1, 3)), named("a", tier("r", 1, 2, 2)),
		named("a", tier("r", 1, 2, 3), tier("s", 1, 2, 3)), named("a", tier("s", 1, 2, 3), tier("r", 1, 2, 3)), named("a", tier("r", 1, 2, 3), tier("r", 1, 2, 3)), webPolicy()}
	for i, a := range all {
		for j, b := range all {
			want(t, fmt.Sprint("Same of ", a, " and ", b), policy.Same(a, b), i == j)
		}
		want(t, fmt.Sprint("Same of ", a, " and a copy"), policy.Same(a, named(strings.Clone(a.Name), slices.Clone(a.Tiers)...)), true)
	}
	want(t, "Same of no tiers and a nil list", policy.Same(api.Policy{Name: "a", Tiers: []api.Tier{}}, api.Policy{Name: "a"}), true)
}

func TestP803Copy(t *testing.T) {
	for _, p := range []api.Policy{{}, named("a"), named("A!", api.Tier{}), webPolicy(), named("a", make([]api.Tier, 20)...)} {
		twin := policy.Copy(p)
		if !alike(twin, p) || !policy.Same(twin, p) {
			t.Errorf("Copy of %v: %v", p, twin)
		}
		wantApart(t, "Copy", texts(p), texts(twin))
	}
	p := webPolicy()
	twin := policy.Copy(p)
	twin.Tiers[0], twin.Tiers[1].Keep = tier("x", 9, 9, 9), 1
	want(t, "what was copied, when the copy changes", alike(p, webPolicy()), true)
	twin = policy.Copy(p)
	p.Tiers[1].Name = "y"
	want(t, "the copy, when what was copied changes", alike(twin, webPolicy()), true)
}

// texts are the texts that a policy has.
func texts(p api.Policy) []string {
	l := []string{p.Name}
	for _, x := range p.Tiers {
		l = append(l, x.Name)
	}
	return l
}

// wantApart wants that no text of the one list has bytes of one of the other list.
func wantApart(t *testing.T, what string, a, b []string) {
	t.Helper()
	for _, x := range a {
		for _, y := range b {
			if x != "" && y != "" && overlap(x, y) {
				t.Errorf("%s: %q and %q share memory", what, x, y)
			}
		}
	}
}

// overlap tells whether two texts share a byte of memory.
func overlap(x, y string) bool {
	from, other := uintptr(unsafe.Pointer(unsafe.StringData(x))), uintptr(unsafe.Pointer(unsafe.StringData(y)))
	return from < other+uintptr(len(y)) && other < from+uintptr(len(x))
}

func TestAnswersOwnTheirMemory(t *testing.T) {
	text := strings.Clone(web)
	a, b := read(text), read(text)
	c := parse(text)
	all := [][]string{{text}, texts(a.p), texts(b.p), texts(c.p)}
	for i := range all {
		for j := range i {
			wantApart(t, "answers "+strconv.Itoa(i)+" and "+strconv.Itoa(j), all[i], all[j])
		}
	}
	for i, x := range texts(a.p) {
		wantApart(t, "one answer", []string{x}, texts(a.p)[:i])
	}
	a.p.Tiers[0].Keep = 1
	want(t, "another answer, when one changes", alike(b.p, webPolicy()), true)
	s, _ := policy.Print(b.p)
	wantApart(t, "Print", []string{s}, texts(b.p))
}

func TestNothingHandedInChanges(t *testing.T) {
	p, q := webPolicy(), webPolicy()
	policy.Check(p)
	policy.Print(p)
	policy.Same(p, q)
	policy.Copy(p)
	want(t, "what was handed in", alike(p, webPolicy()) && alike(q, webPolicy()), true)
	// What stands behind a list's end is no tier, and stays.
	room := append(slices.Clone(p.Tiers), tier("behind", 1, 2, 3))
	short := named("web", room[:2]...)
	twin := policy.Copy(short)
	twin.Tiers = append(twin.Tiers, tier("more", 1, 1, 1))
	want(t, "what stands behind the list", room[2], tier("behind", 1, 2, 3))
}

// policies calls f of many policies that may be.
func policies(f func(p api.Policy)) {
	shapes := [][]int{{1}, {1, 2}, {1, 1000000}, {1, 3, 9}, {1, 2, 1000000}, {1, 2, 4, 8}, {1, 10, 100, 1000, 10000}, {1, 7, 14, 28, 1000000 - 1000000%28}}
	names := []string{"tier", "every", "0", "-", "a.b_c-9", "fifteen.bytes.n"}
	for i, shape := range shapes {
		for _, keep := range []int{1, 99, 999995} {
			for more := range 2 {
				p := named(names[(i+keep)%len(names)])
				for j, every := range shape {
					p.Tiers = append(p.Tiers, tier(names[(i+j)%len(names)], every, keep+more*j, 1+(i+j+keep)%8))
				}
				f(p)
			}
		}
	}
}

func TestP804ReadOfPrint(t *testing.T) {
	n := 0
	policies(func(p api.Policy) {
		n++
		wantCheck(t, p, -1)
		s, e := policy.Print(p)
		want(t, fmt.Sprint("Print of ", p, ": the error"), e, api.OK)
		wantAnswer(t, "Read "+of(s), read(s), answer{p: p})
		wantModel(t, s)
		want(t, "Same of it", policy.Same(read(s).p, p), true)
	})
	want(t, "policies", n, 48)
	// The longest text of all.
	var most api.Policy
	most.Name = strings.Repeat("n", 15)
	for i, every := range []int{1, 125000, 250000, 500000, 1000000} {
		most.Tiers = append(most.Tiers, tier(strings.Repeat(string(rune('a'+i)), 15), every, 1000000, 8))
	}
	s, _ := policy.Print(most)
	wantAnswer(t, "Read "+of(s), read(s), answer{p: most})
}

func TestP804PrintOfRead(t *testing.T) {
	for _, text := range []string{web, strings.ReplaceAll(web, " ", "\t  "), strings.ReplaceAll(web, "\n", " # x\n\n"), "#\n" + web[:len(web)-1]} {
		a := read(text)
		wantAnswer(t, "Read "+of(text), a, answer{p: webPolicy()})
		s, e := policy.Print(a.p)
		want(t, "Print of what was read: the error", e, api.OK)
		want(t, "Print of what was read", s, web)
		again, _ := policy.Print(read(s).p)
		want(t, "Print of what was read again", again, s)
	}
}

func TestReadme(t *testing.T) {
	p, e, at := policy.Read("policy web\ntier raw every 1 keep 100 shards 2 # two shards\ntier tens every 10 keep 1000 shards 1\n")
	want(t, "Read: the error", e, api.OK)
	want(t, "Read: the place", at, 0)
	text, e := policy.Print(p)
	want(t, "Print: the error", e, api.OK)
	want(t, "Print", text, web)
	twin := policy.Copy(p)
	twin.Tiers[1].Every = 1
	want(t, "Same", policy.Same(p, twin), false)
	e, at = policy.Check(twin)
	want(t, "Check: the error", e, api.ErrRule)
	want(t, "Check: the tier", at, 2)
}
