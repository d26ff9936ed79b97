package rec_test

import (
	"encoding/binary"
	"math"
	"slices"
	"strconv"
	"strings"
	"testing"
	"unsafe"

	"sediment/agg"
	"sediment/api"
	"sediment/rec"
)

const (
	least    = math.MinInt
	greatest = math.MaxInt
	end      = 1 << 40           // the greatest time
	full     = 1 << 62           // the greatest Count
	longest  = "fifteen.bytes-_" // a name of as many bytes as it may have
	letters  = "abcdefghijklmnopqrstuvwxyz0123456789._-"
	zeros    = "\x00\x00\x00\x00\x00\x00\x00\x00\x00\x00\x00\x00\x00\x00\x00\x00"
)

// want holds an answer against what is wanted.
func want[T comparable](t *testing.T, what string, got, wanted T) {
	t.Helper()
	if got != wanted {
		t.Errorf("%s: %v, not %v", what, got, wanted)
	}
}

// wantBytes holds bytes and an error against what is wanted.
func wantBytes(t *testing.T, what, b string, e api.Errno, wanted string, bad api.Errno) {
	t.Helper()
	if b != wanted || e != bad {
		t.Errorf("%s: %x, %d, not %x, %d", what, b, e, wanted, bad)
	}
}

// wantList holds a list and an error against what is wanted; nil and empty ones are one.
func wantList[T comparable](t *testing.T, what string, l []T, e api.Errno, wanted []T, bad api.Errno) {
	t.Helper()
	if !slices.Equal(l, wanted) || e != bad {
		t.Errorf("%s: %v, %d, not %v, %d", what, l, e, wanted, bad)
	}
}

func wantPut(t *testing.T, what string, l []api.Record, wanted string, bad api.Errno) {
	t.Helper()
	b, e := rec.Put(l...)
	wantBytes(t, what, b, e, wanted, bad)
}

func wantGet(t *testing.T, what, b string, wanted []api.Record, bad api.Errno) {
	t.Helper()
	l, e := rec.Get(b)
	wantList(t, what, l, e, wanted, bad)
}

func wantPutSamples(t *testing.T, what string, l []api.Sample, wanted string, bad api.Errno) {
	t.Helper()
	b, e := rec.PutSamples(l...)
	wantBytes(t, what, b, e, wanted, bad)
}

func wantGetSamples(t *testing.T, what, b string, wanted []api.Sample, bad api.Errno) {
	t.Helper()
	l, e := rec.GetSamples(b)
	wantList(t, what, l, e, wanted, bad)
}

// record is that of these values.
func record(s string, start int, v ...int) api.Record {
	return api.Record{Name: s, Start: start, Agg: agg.Of(v...)}
}

// of tells a place in a list or text, for a failure's text.
func of(what string, at ...int) string {
	for _, i := range at {
		what += ", " + strconv.Itoa(i)
	}
	return what
}

// rightNames are such as are names.
func rightNames() []string {
	return []string{"a", "z", "0", "9", ".", "_", "-", "ab", "a.b-c_d", "0a", longest, strings.Repeat("-", 15)}
}

// wrongNames are such as are none.
func wrongNames() []string {
	return []string{"", "A", " ", "a b", "a\x00", "\x00", "\x00a", "\u00e9", "{", "`", "/", ":", ",", "a\n", "\xff", longest + "a", strings.Repeat("a", 17), strings.Repeat("a", 257), strings.Repeat("a", 271)}
}

// rightTimes are such as the clock may come to.
func rightTimes() []int {
	return []int{0, 1, 255, 256, 1 << 32, 1<<32 - 1, end - 1, end}
}

// wrongTimes are such as it may not.
func wrongTimes() []int {
	return []int{-1, -2, -256, -end, least, least + 1, end + 1, end + 256, 2 * end, end | 1<<62, greatest - 1, greatest}
}

// rightAggs are such as are valid, those too that are of no values.
func rightAggs() []api.Agg {
	return []api.Agg{
		agg.Of(5), agg.Of(0), agg.Of(-1, 3), agg.Of(greatest, greatest), agg.Of(least, least, -1),
		{Count: 1}, {Count: full}, {Count: full - 1, Hi: -9, Lo: 1 << 63, Min: least, Max: greatest},
		{Count: 7, Hi: greatest, Lo: math.MaxUint64, Min: greatest, Max: greatest},
		{Count: 3, Hi: least, Lo: 1, Min: least, Max: least},
		{Count: 0x0102030405060708, Hi: 0x1112131415161718, Lo: 0x2122232425262728, Min: 0x3132333435363738, Max: 0x4142434445464748},
	}
}

// wrongAggs are such as are not.
func wrongAggs() []api.Agg {
	return []api.Agg{
		{}, {Lo: 5, Min: 5, Max: 5}, {Count: -1}, {Count: least}, {Count: full + 1}, {Count: greatest},
		{Count: 1, Min: 1}, {Count: 1, Max: -1}, {Count: 9, Min: greatest, Max: least},
	}
}

// rightRecords are all records of which all may be.
func rightRecords() []api.Record {
	var l []api.Record
	for _, s := range rightNames() {
		for _, start := range rightTimes() {
			for _, a := range rightAggs() {
				l = append(l, api.Record{Name: s, Start: start, Agg: a})
			}
		}
	}
	return l
}

// wrongRecords are such as may not be, one thing or several of them wrong.
func wrongRecords() []api.Record {
	a := agg.Of(4)
	l := []api.Record{{}, {Name: "", Start: -1, Agg: a}, {Name: "A", Start: 0}, {Name: "a", Start: end + 1}}
	for _, s := range wrongNames() {
		l = append(l, api.Record{Name: s, Start: 3, Agg: a})
	}
	for _, start := range wrongTimes() {
		l = append(l, api.Record{Name: "a", Start: start, Agg: a})
	}
	for _, x := range wrongAggs() {
		l = append(l, api.Record{Name: "a", Start: 3, Agg: x})
	}
	return l
}

// rightSamples are all samples of which all may be.
func rightSamples() []api.Sample {
	var l []api.Sample
	for _, s := range rightNames() {
		for _, at := range rightTimes() {
			for _, v := range []int{0, 1, -1, 258, -end, 0x0102030405060708, least, greatest} {
				l = append(l, api.Sample{Name: s, Time: at, Value: v})
			}
		}
	}
	return l
}

// wrongSamples are such as may not be.
func wrongSamples() []api.Sample {
	l := []api.Sample{{}, {Name: "", Time: -1}, {Name: "A", Time: end + 1, Value: 5}}
	for _, s := range wrongNames() {
		l = append(l, api.Sample{Name: s, Time: 3, Value: 4})
	}
	for _, at := range wrongTimes() {
		l = append(l, api.Sample{Name: "a", Time: at, Value: 4})
	}
	return l
}

// head lays a name's length, its bytes and bytes 0, and a time, whatever they are: what can't be a length goes in its last byte alone.
func head(s string, at int) []byte {
	b := make([]byte, 16, rec.Size)
	b[0] = byte(len(s))
	copy(b[1:], s)
	return binary.LittleEndian.AppendUint64(b, uint64(at))
}

// bytesOf are the bytes of records as P1601 words them, be they valid or not.
func bytesOf(l ...api.Record) string {
	var all []byte
	for _, r := range l {
		b := head(r.Name, r.Start)
		for _, x := range []uint64{uint64(r.Agg.Count), uint64(r.Agg.Hi), r.Agg.Lo, uint64(r.Agg.Min), uint64(r.Agg.Max)} {
			b = binary.LittleEndian.AppendUint64(b, x)
		}
		all = append(all, b...)
	}
	return string(all)
}

// bytesOfSamples are the bytes of samples as P1602 words them, be they right or not.
func bytesOfSamples(l ...api.Sample) string {
	var all []byte
	for _, s := range l {
		all = append(all, binary.LittleEndian.AppendUint64(head(s.Name, s.Time), uint64(s.Value))...)
	}
	return string(all)
}

// word is the number at the i-th 8 bytes of b.
func word(b string, i int) int {
	return int(binary.LittleEndian.Uint64([]byte(b[8*i : 8*i+8])))
}

// isHead tells whether b begins with 16 bytes as they are laid for a name, and 8 of a time that may be.
func isHead(b string) bool {
	n := int(b[0])
	if n < 1 || n > 15 || b[1+n:16] != zeros[1+n:] || strings.Trim(b[1:1+n], letters) != "" {
		return false
	}
	return word(b, 2) >= 0 && word(b, 2) <= end
}

// isRecord tells whether b is a record's bytes.
func isRecord(b string) bool {
	return isHead(b) && word(b, 3) >= 1 && word(b, 3) <= full && word(b, 6) <= word(b, 7)
}

func TestP1601Size(t *testing.T) {
	want(t, "Size", rec.Size, 64)
	b, e := rec.Put(record("a", 0, 1))
	want(t, "the bytes of one", len(b), 64)
	want(t, "its error", e, api.OK)
	b, e = rec.Put(record("a", 0, 1), record(longest, end, least, greatest), record("a", 0, 1))
	want(t, "the bytes of three", len(b), 192)
	want(t, "their error", e, api.OK)
}

func TestP1601Valid(t *testing.T) {
	for i, r := range rightRecords() {
		want(t, of("Valid of a right one", i), rec.Valid(r), true)
	}
	for i, r := range wrongRecords() {
		want(t, of("Valid of a wrong one", i), rec.Valid(r), false)
	}
	want(t, "the clock's end", rec.Valid(record("a", end, 1)), true)
	want(t, "a tick behind it", rec.Valid(record("a", end+1, 1)), false)
	want(t, "a tick ahead of the beginning", rec.Valid(record("a", -1, 1)), false)
	want(t, "no values", rec.Valid(record("a", 0)), false)
	want(t, "a sum that its Count does not allow", rec.Valid(api.Record{Name: "a", Agg: api.Agg{Count: 1, Hi: 9, Lo: 7}}), true)
}

func TestP1601ValidOfEachName(t *testing.T) {
	for i := range 256 {
		c := string([]byte{byte(i)})
		is := strings.Contains(letters, c)
		for _, s := range []string{c, c + "a", "a" + c, longest[:14] + c} {
			want(t, of("Valid with the byte", i), rec.Valid(record(s, 0, 1)), is)
		}
	}
	for n := range 300 {
		want(t, of("Valid with a name of so many bytes", n), rec.Valid(record(strings.Repeat("n", n), 0, 1)), n >= 1 && n <= 15)
	}
}

func TestP1601PutLaysBytes(t *testing.T) {
	wantPut(t, "one", []api.Record{record("ab", 258, 3, -1)},
		"\x02ab"+zeros[:13]+"\x02\x01"+zeros[:6]+"\x02"+zeros[:15]+"\x02"+zeros[:7]+strings.Repeat("\xff", 8)+"\x03"+zeros[:7], api.OK)
	wantPut(t, "one of the greatest numbers", []api.Record{{Name: longest, Start: end, Agg: api.Agg{Count: full, Hi: -2, Lo: 1, Min: least, Max: greatest}}},
		"\x0f"+longest+zeros[:5]+"\x01"+zeros[:9]+"\x40\xfe"+strings.Repeat("\xff", 7)+"\x01"+zeros[:14]+"\x80"+strings.Repeat("\xff", 7)+"\x7f", api.OK)
	all := rightRecords()
	for i, r := range all {
		wantPut(t, of("one", i), []api.Record{r}, bytesOf(r), api.OK)
	}
	wantPut(t, "all", all, bytesOf(all...), api.OK)
}

func TestP1601PutOfSeveral(t *testing.T) {
	wantPut(t, "none", nil, "", api.OK)
	wantPut(t, "none of a list", []api.Record{}, "", api.OK)
	// They need not rise, and need not differ.
	l := []api.Record{record("b", 7, 1), record("a", 9, 2), record("a", 3, 4), record("a", 3, 4), record("b", 7, 5)}
	wantPut(t, "in any order", l, bytesOf(l...), api.OK)
	for n := range len(l) + 1 {
		wantPut(t, of("so many", n), l[:n], bytesOf(l[:n]...), api.OK)
	}
}

func TestP1601PutOfWrongOnes(t *testing.T) {
	l := []api.Record{record("a", 0, 1), record("b", 5, 2, 3), record("a", 0, 1)}
	for i, r := range wrongRecords() {
		wantPut(t, of("a wrong one alone", i), []api.Record{r}, "", api.ErrArg)
		wantPut(t, of("two wrong ones", i), []api.Record{r, r}, "", api.ErrArg)
		for at := range len(l) + 1 {
			wantPut(t, of("a wrong one at", i, at), slices.Insert(slices.Clone(l), at, r), "", api.ErrArg)
		}
	}
}

func TestP1601GetTellsWhatWasPut(t *testing.T) {
	wantGet(t, "nothing", "", nil, api.OK)
	all := rightRecords()
	for i, r := range all {
		wantGet(t, of("one", i), bytesOf(r), []api.Record{r}, api.OK)
	}
	wantGet(t, "all", bytesOf(all...), all, api.OK)
	l := []api.Record{record("b", 7, 1), record("a", 9, 2), record("a", 9, 2), record(longest, end, 4)}
	for n := range len(l) + 1 {
		b, e := rec.Put(l[:n]...)
		want(t, of("Put of so many", n), e, api.OK)
		wantGet(t, of("Get of so many", n), b, l[:n], api.OK)
	}
}

func TestP1601GetOfSomeBytes(t *testing.T) {
	l := []api.Record{record("a", 1, 1), record("b", 2, 2), record("c", 3, 3), record("d", 4, 4)}
	b := bytesOf(l...)
	for n := range len(b) + 1 {
		if n%64 == 0 {
			wantGet(t, of("so many bytes", n), b[:n], l[:n/64], api.OK)
			continue
		}
		wantGet(t, of("so many bytes", n), b[:n], nil, api.ErrShort)
		// That they are too few is told ahead of what they are.
		wantGet(t, of("so many wrong bytes", n), strings.Repeat("\xff", n), nil, api.ErrShort)
		wantGet(t, of("a wrong one, and so many bytes", n), bytesOf(record("A", 1, 1))+b[:n], nil, api.ErrShort)
	}
	wantGet(t, "64 bytes 0", strings.Repeat("\x00", 64), nil, api.ErrForm)
	wantGet(t, "64 bytes 255", strings.Repeat("\xff", 64), nil, api.ErrForm)
	wantGet(t, "two samples", bytesOfSamples(api.Sample{Name: "a"}, api.Sample{Name: "b"}), nil, api.ErrForm)
}

func TestP1601GetOfWrongOnes(t *testing.T) {
	l := []api.Record{record("a", 0, 1), record("b", 5, 2, 3), record("a", 0, 1)}
	for i, r := range wrongRecords() {
		// Is a name too long, then so is its length, or its bytes tell of another name.
		if len(r.Name) > 15 {
			continue
		}
		wantGet(t, of("a wrong one alone", i), bytesOf(r), nil, api.ErrForm)
		for at := range len(l) + 1 {
			wantGet(t, of("a wrong one at", i, at), bytesOf(slices.Insert(slices.Clone(l), at, r)...), nil, api.ErrForm)
		}
	}
}

// heads are 16 bytes that are none of a name.
func heads() []string {
	l := []string{
		"\x01\x00" + zeros[:14],
		"\x00a" + zeros[:14],
		"\x02a" + zeros[:14],
		"\x03a\x00b" + zeros[:12],
		"\x01a\x00b" + zeros[:12],
		"\x10" + strings.Repeat("a", 15),
		"\xff" + strings.Repeat("a", 15),
		"\x80" + strings.Repeat("a", 15),
		"\x0f" + strings.Repeat("a", 14) + "\x00",
		"\x0f" + strings.Repeat("a", 14) + "A",
		strings.Repeat("a", 16),
		zeros,
	}
	// A byte behind the name that is not 0, at each place there is.
	for n := 1; n < 15; n++ {
		for at := n; at < 15; at++ {
			b := []byte(string([]byte{byte(n)}) + strings.Repeat("a", n) + zeros[:15-n])
			b[1+at] = 1
			l = append(l, string(b))
		}
	}
	return l
}

func TestP1601GetOfWrongNames(t *testing.T) {
	good := bytesOf(record("a", 5, 1))
	for i, h := range heads() {
		want(t, of("how many bytes of a head", i), len(h), 16)
		wantGet(t, of("a name's bytes", i), h+good[16:], nil, api.ErrForm)
		wantGet(t, of("a name's bytes ahead", i), h+good[16:]+good, nil, api.ErrForm)
		wantGet(t, of("a name's bytes behind", i), good+h+good[16:], nil, api.ErrForm)
	}
}

func TestP1601GetOfSpoiltBytes(t *testing.T) {
	for k, r := range []api.Record{record("ab", 258, 3, -1), record(longest, end, least), {Name: "a", Agg: api.Agg{Count: full, Min: -5, Max: -5}}} {
		b := bytesOf(r)
		for at := range len(b) {
			for c := range 256 {
				x := b[:at] + string([]byte{byte(c)}) + b[at+1:]
				what := of("a record with a byte at, that is", k, at, c)
				l, e := rec.Get(x)
				if !isRecord(x) {
					wantList(t, what, l, e, nil, api.ErrForm)
					continue
				}
				want(t, what+": the error", e, api.OK)
				want(t, what+": how many", len(l), 1)
				want(t, what+": its bytes", bytesOf(l...), x)
				wantPut(t, what+": put again", l, x, api.OK)
			}
		}
	}
}

func TestP1601AnswersAreNew(t *testing.T) {
	given := []api.Record{record("a", 1, 1), record("b", 2, 2)}
	was := slices.Clone(given)
	b, _ := rec.Put(given...)
	one, _ := rec.Get(b)
	two, _ := rec.Get(b)
	one[0] = record("x", 9, 9)
	one = append(one[:1], record("y", 9, 9))
	want(t, "how many", len(one), 2)
	wantList(t, "what was handed in", given, api.OK, was, api.OK)
	wantList(t, "what was told next", two, api.OK, was, api.OK)
	wantGet(t, "the same bytes", b, was, api.OK)
	start := uintptr(unsafe.Pointer(unsafe.StringData(b)))
	for _, r := range two {
		at := uintptr(unsafe.Pointer(unsafe.StringData(r.Name)))
		want(t, "a name shares the bytes", at >= start && at < start+uintptr(len(b)), false)
	}
}

func TestP1602PutSamplesLaysBytes(t *testing.T) {
	wantPutSamples(t, "one", []api.Sample{{Name: "ab", Time: 258, Value: -2}},
		"\x02ab"+zeros[:13]+"\x02\x01"+zeros[:6]+"\xfe"+strings.Repeat("\xff", 7), api.OK)
	wantPutSamples(t, "one at the clock's end", []api.Sample{{Name: longest, Time: end, Value: least}},
		"\x0f"+longest+zeros[:5]+"\x01"+zeros[:9]+"\x80", api.OK)
	all := rightSamples()
	for i, s := range all {
		b, e := rec.PutSamples(s)
		wantBytes(t, of("one", i), b, e, bytesOfSamples(s), api.OK)
		want(t, of("how many bytes", i), len(b), 32)
	}
	wantPutSamples(t, "all", all, bytesOfSamples(all...), api.OK)
}

func TestP1602PutSamplesOfSeveral(t *testing.T) {
	wantPutSamples(t, "none", nil, "", api.OK)
	wantPutSamples(t, "none of a list", []api.Sample{}, "", api.OK)
	var l []api.Sample
	// More than may be put to a store at once may be laid.
	for i := range 3 * api.MaxBatch {
		l = append(l, api.Sample{Name: string(letters[i%5]), Time: i * 7 % 4, Value: -i})
	}
	for n := range len(l) + 1 {
		wantPutSamples(t, of("so many", n), l[:n], bytesOfSamples(l[:n]...), api.OK)
	}
}

func TestP1602PutSamplesOfWrongOnes(t *testing.T) {
	l := []api.Sample{{Name: "a", Time: 0, Value: 1}, {Name: "b", Time: 5, Value: -1}, {Name: "a", Time: 0, Value: 1}}
	for i, s := range wrongSamples() {
		wantPutSamples(t, of("a wrong one alone", i), []api.Sample{s}, "", api.ErrArg)
		wantPutSamples(t, of("two wrong ones", i), []api.Sample{s, s}, "", api.ErrArg)
		for at := range len(l) + 1 {
			wantPutSamples(t, of("a wrong one at", i, at), slices.Insert(slices.Clone(l), at, s), "", api.ErrArg)
		}
	}
}

func TestP1602GetSamplesTellsWhatWasPut(t *testing.T) {
	wantGetSamples(t, "nothing", "", nil, api.OK)
	all := rightSamples()
	for i, s := range all {
		wantGetSamples(t, of("one", i), bytesOfSamples(s), []api.Sample{s}, api.OK)
	}
	wantGetSamples(t, "all", bytesOfSamples(all...), all, api.OK)
	b, e := rec.PutSamples(all...)
	want(t, "Put of all", e, api.OK)
	wantGetSamples(t, "Get of all that was put", b, all, api.OK)
}

func TestP1602GetSamplesOfSomeBytes(t *testing.T) {
	l := []api.Sample{{Name: "a", Time: 1, Value: 1}, {Name: "b", Time: 2, Value: 2}, {Name: "b", Time: 1, Value: 3}}
	b := bytesOfSamples(l...)
	for n := range len(b) + 1 {
		if n%32 == 0 {
			wantGetSamples(t, of("so many bytes", n), b[:n], l[:n/32], api.OK)
			continue
		}
		wantGetSamples(t, of("so many bytes", n), b[:n], nil, api.ErrShort)
		wantGetSamples(t, of("so many wrong bytes", n), strings.Repeat("\xff", n), nil, api.ErrShort)
		wantGetSamples(t, of("a wrong one, and so many bytes", n), bytesOfSamples(api.Sample{Name: "A"})+b[:n], nil, api.ErrShort)
	}
	wantGetSamples(t, "32 bytes 0", strings.Repeat("\x00", 32), nil, api.ErrForm)
	wantGetSamples(t, "32 bytes 255", strings.Repeat("\xff", 32), nil, api.ErrForm)
	wantGetSamples(t, "a record", bytesOf(record("a", 1, 5)), nil, api.ErrForm)
}

func TestP1602GetSamplesOfWrongOnes(t *testing.T) {
	l := []api.Sample{{Name: "a", Time: 0, Value: 1}, {Name: "b", Time: 5, Value: -1}, {Name: "a", Time: 0, Value: 1}}
	for i, s := range wrongSamples() {
		if len(s.Name) > 15 {
			continue
		}
		wantGetSamples(t, of("a wrong one alone", i), bytesOfSamples(s), nil, api.ErrForm)
		for at := range len(l) + 1 {
			wantGetSamples(t, of("a wrong one at", i, at), bytesOfSamples(slices.Insert(slices.Clone(l), at, s)...), nil, api.ErrForm)
		}
	}
	good := bytesOfSamples(l[1])
	for i, h := range heads() {
		wantGetSamples(t, of("a name's bytes", i), h+good[16:], nil, api.ErrForm)
		wantGetSamples(t, of("a name's bytes ahead", i), h+good[16:]+good, nil, api.ErrForm)
		wantGetSamples(t, of("a name's bytes behind", i), good+h+good[16:], nil, api.ErrForm)
	}
}

func TestP1602GetSamplesOfSpoiltBytes(t *testing.T) {
	for k, s := range []api.Sample{{Name: "ab", Time: 258, Value: -3}, {Name: longest, Time: end, Value: least}, {Name: "a"}} {
		b := bytesOfSamples(s)
		for at := range len(b) {
			for c := range 256 {
				x := b[:at] + string([]byte{byte(c)}) + b[at+1:]
				what := of("a sample with a byte at, that is", k, at, c)
				l, e := rec.GetSamples(x)
				if !isHead(x) {
					wantList(t, what, l, e, nil, api.ErrForm)
					continue
				}
				want(t, what+": the error", e, api.OK)
				want(t, what+": how many", len(l), 1)
				want(t, what+": its bytes", bytesOfSamples(l...), x)
				wantPutSamples(t, what+": put again", l, x, api.OK)
			}
		}
	}
}

func TestP1602AnswersAreNew(t *testing.T) {
	given := []api.Sample{{Name: "a", Time: 1, Value: 1}, {Name: "b", Time: 2, Value: 2}}
	was := slices.Clone(given)
	b, _ := rec.PutSamples(given...)
	one, _ := rec.GetSamples(b)
	two, _ := rec.GetSamples(b)
	one[0] = api.Sample{Name: "x", Time: 9, Value: 9}
	one = append(one[:1], api.Sample{Name: "y", Time: 9, Value: 9})
	want(t, "how many", len(one), 2)
	wantList(t, "what was handed in", given, api.OK, was, api.OK)
	wantList(t, "what was told next", two, api.OK, was, api.OK)
	wantGetSamples(t, "the same bytes", b, was, api.OK)
	start := uintptr(unsafe.Pointer(unsafe.StringData(b)))
	for _, s := range two {
		at := uintptr(unsafe.Pointer(unsafe.StringData(s.Name)))
		want(t, "a name shares the bytes", at >= start && at < start+uintptr(len(b)), false)
	}
}

// row makes numbers that look like any, always the same ones.
type row uint64

func (r *row) next() int {
	*r = *r*6364136223846793005 + 1442695040888963407
	return int(*r >> 33)
}

// pick is one of l, a right one nine times of ten.
func pick[T any](r *row, right, wrong []T) T {
	if r.next()%10 > 0 {
		return right[r.next()%len(right)]
	}
	return wrong[r.next()%len(wrong)]
}

func TestP1601RowsOfRecords(t *testing.T) {
	r := row(1601)
	names, times, aggs := rightNames(), rightTimes(), rightAggs()
	for i := range 4000 {
		var l []api.Record
		right := true
		for range r.next() % 6 {
			x := api.Record{Name: pick(&r, names, wrongNames()), Start: pick(&r, times, wrongTimes()), Agg: pick(&r, aggs, wrongAggs())}
			is := slices.Contains(names, x.Name) && slices.Contains(times, x.Start) && slices.Contains(aggs, x.Agg)
			want(t, of("Valid of one of a row", i), rec.Valid(x), is)
			right = right && is
			l = append(l, x)
		}
		if !right {
			wantPut(t, of("Put of a wrong row", i), l, "", api.ErrArg)
			continue
		}
		wantPut(t, of("Put of a row", i), l, bytesOf(l...), api.OK)
		wantGet(t, of("Get of a row", i), bytesOf(l...), l, api.OK)
	}
}

func TestP1602RowsOfSamples(t *testing.T) {
	r := row(1602)
	names, times := rightNames(), rightTimes()
	for i := range 4000 {
		var l []api.Sample
		right := true
		for range r.next() % 6 {
			x := api.Sample{Name: pick(&r, names, wrongNames()), Time: pick(&r, times, wrongTimes()), Value: r.next()<<40 ^ r.next()<<20 ^ r.next()}
			right = right && slices.Contains(names, x.Name) && slices.Contains(times, x.Time)
			l = append(l, x)
		}
		if !right {
			wantPutSamples(t, of("Put of a wrong row", i), l, "", api.ErrArg)
			continue
		}
		wantPutSamples(t, of("Put of a row", i), l, bytesOfSamples(l...), api.OK)
		wantGetSamples(t, of("Get of a row", i), bytesOfSamples(l...), l, api.OK)
	}
}
