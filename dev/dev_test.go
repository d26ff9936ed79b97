package dev_test

import (
	"math"
	"slices"
	"strconv"
	"strings"
	"testing"
	"unsafe"

	"sediment/api"
	"sediment/dev"
)

// want holds an answer against what is wanted.
func want[T comparable](t *testing.T, what string, got, wanted T) {
	t.Helper()
	if got != wanted {
		t.Errorf("%s: %v, not %v", what, got, wanted)
	}
}

// block is the bytes of a block that is full of c.
func block(c byte) string { return strings.Repeat(string([]byte{c}), 256) }

// show tells all blocks: a letter of each that is full of it, `.` of one of bytes 0, `?` of another one, `!` and the error of one that is not read.
func show(d *dev.Disk) string {
	text := ""
	for at := range d.Blocks() {
		s, e := d.Read(at)
		switch {
		case e != api.OK:
			text += "!" + strconv.Itoa(int(e)) + s
		case s == block(0):
			text += "."
		case s == block(s[0]):
			text += s[:1]
		default:
			text += "?"
		}
	}
	return text
}

// stand tells all that can be asked of a disk but its blocks' bytes, in one text.
func stand(d *dev.Disk) string {
	return strconv.FormatBool(d.On()) + " " + strconv.Itoa(d.Writes()) + " " + strconv.Itoa(d.Waiting()) + " " + strconv.Itoa(d.Blocks())
}

// wantDisk holds all that can be asked of a disk against what is wanted.
func wantDisk(t *testing.T, what string, d *dev.Disk, wanted, blocks string) {
	t.Helper()
	want(t, what+": how it stands", stand(d), wanted)
	want(t, what+": its blocks", show(d), blocks)
}

// write writes a letter each to blocks 0, 1 and so on, a blank to none.
func write(t *testing.T, d *dev.Disk, letters string) {
	t.Helper()
	for at := range len(letters) {
		if letters[at] != ' ' {
			want(t, "a Write", d.Write(at, block(letters[at])), api.OK)
		}
	}
}

// filled is a disk of 4 blocks with x in block 0, which lasts, and the writes a, b, c, d to 0, 1, 2 and 0, which wait.
func filled(t *testing.T) *dev.Disk {
	t.Helper()
	d := dev.New(4)
	write(t, d, "x")
	want(t, "a Flush", d.Flush(), api.OK)
	write(t, d, "abc")
	write(t, d, "d")
	return d
}

func TestP601New(t *testing.T) {
	for _, n := range []int{1, 2, 63, 64, 65, 128, 1000, 4095, api.MaxBlocks} {
		d := dev.New(n)
		what := "New of " + strconv.Itoa(n)
		wantDisk(t, what, d, "true 0 0 "+strconv.Itoa(n), strings.Repeat(".", n))
		want(t, what+": Write to the last one", d.Write(n-1, block('z')), api.OK)
		want(t, what+": Write behind it", d.Write(n, block('z')), api.ErrRange)
		wantDisk(t, what+", with a write", d, "true 1 1 "+strconv.Itoa(n), strings.Repeat(".", n-1)+"z")
	}
	for _, n := range []int{0, -1, api.MaxBlocks + 1, math.MinInt, math.MaxInt, 1<<32 + 1} {
		want(t, "New of "+strconv.Itoa(n), dev.New(n), nil)
	}
}

func TestP601WriteIsReadAtOnce(t *testing.T) {
	d := dev.New(200)
	all := ""
	for i := range 256 {
		all += string([]byte{byte(i)})
	}
	for _, at := range []int{199, 0, 64, 63} {
		want(t, "Write", d.Write(at, all), api.OK)
	}
	for at := range 200 {
		s, e := d.Read(at)
		wanted := block(0)
		if at == 199 || at == 0 || at == 64 || at == 63 {
			wanted = all
		}
		want(t, "Read of "+strconv.Itoa(at), s, wanted)
		want(t, "Read of "+strconv.Itoa(at)+": the error", e, api.OK)
	}
	want(t, "Write once more", d.Write(64, block(0)), api.OK)
	s, _ := d.Read(64)
	want(t, "Read of the later one", s, block(0))
}

func TestP601EachWriteWaits(t *testing.T) {
	d := dev.New(3)
	for n := range 10 {
		want(t, "Waiting", d.Waiting(), n)
		want(t, "Write", d.Write(1, block('a')), api.OK) // one block, and the same bytes: it waits none the less
	}
	want(t, "Flush", d.Flush(), api.OK)
	wantDisk(t, "behind a Flush", d, "true 11 0 3", ".a.")
	want(t, "Flush of nothing", d.Flush(), api.OK)
	wantDisk(t, "behind another one", d, "true 12 0 3", ".a.")
}

func TestP601FlushLasts(t *testing.T) {
	for _, keep := range [][]int{nil, {0}, {1}, {1, 1, 1}} {
		d := dev.New(3)
		write(t, d, "abc")
		write(t, d, " d")
		want(t, "Flush", d.Flush(), api.OK)
		want(t, "Cut", d.Cut(keep...), 0)
		d.Restore()
		wantDisk(t, "what was flushed", d, "true 5 0 3", "adc")
	}
}

func TestP601WrongWrites(t *testing.T) {
	wrong := []struct {
		at, size int
		e        api.Errno
	}{
		{4, 256, api.ErrRange}, {-1, 256, api.ErrRange}, {4096, 256, api.ErrRange}, {math.MinInt, 256, api.ErrRange}, {math.MaxInt, 256, api.ErrRange}, {1 << 32, 256, api.ErrRange},
		{0, 0, api.ErrArg}, {0, 1, api.ErrArg}, {3, 255, api.ErrArg}, {3, 257, api.ErrArg}, {1, 512, api.ErrArg}, {1, 1 << 16, api.ErrArg},
		{4, 0, api.ErrArg}, {-1, 255, api.ErrArg}, {math.MaxInt, 257, api.ErrArg},
	}
	d := filled(t)
	d.Arm(1)
	for _, c := range wrong {
		what := "Write to " + strconv.Itoa(c.at) + " of " + strconv.Itoa(c.size)
		want(t, what, d.Write(c.at, strings.Repeat("w", c.size)), c.e)
		wantDisk(t, what, d, "true 6 4 4", "dbc.")
	}
	want(t, "the one that is armed yet", d.Write(3, block('e')), api.OK)
	for _, c := range wrong { // the power does not go at a Write that would tell an error of its own
		want(t, "a wrong Write ahead of the cut", d.Write(c.at, strings.Repeat("w", c.size)), c.e)
	}
	wantDisk(t, "ahead of the cut", d, "true 7 5 4", "dbce")
	d.Cut()
	for _, c := range append(wrong, wrong[0]) {
		want(t, "without power", d.Write(c.at, strings.Repeat("w", c.size)), api.ErrOff)
	}
	want(t, "a good one without power", d.Write(0, block('w')), api.ErrOff)
	want(t, "Flush without power", d.Flush(), api.ErrOff)
	want(t, "Writes", d.Writes(), 7)
	d.Restore()
	wantDisk(t, "behind all of them", d, "true 7 0 4", "x...")
}

func TestP601WrongReads(t *testing.T) {
	d := filled(t)
	for _, at := range []int{4, 5, -1, 64, 4095, 4096, math.MinInt, math.MaxInt, 1 << 32} {
		s, e := d.Read(at)
		want(t, "Read of "+strconv.Itoa(at), e, api.ErrRange)
		want(t, "Read of "+strconv.Itoa(at)+": the bytes", s, "")
	}
	d.Cut()
	for _, at := range []int{0, 3, 4, -1, math.MinInt, math.MaxInt} {
		s, e := d.Read(at)
		want(t, "without power, Read of "+strconv.Itoa(at), e, api.ErrOff)
		want(t, "without power, Read of "+strconv.Itoa(at)+": the bytes", s, "")
	}
}

func TestP601ReadIsNew(t *testing.T) {
	d := dev.New(2)
	long := strings.Repeat("a", 1<<16)
	d.Write(1, long[:256])
	for at := range 2 {
		one, _ := d.Read(at)
		two, _ := d.Read(at)
		want(t, "two answers are alike", one, two)
		if p := unsafe.StringData(one); p == unsafe.StringData(two) || p == unsafe.StringData(long) {
			t.Errorf("Read of %d shares its bytes", at)
		}
	}
}

func TestP602Cut(t *testing.T) {
	d := dev.New(4)
	write(t, d, "x")
	d.Flush()
	write(t, d, "y")
	want(t, "the example: Cut", d.Cut(0), 1)
	want(t, "the example: On", d.On(), false)
	d.Restore()
	wantDisk(t, "the example", d, "true 3 0 4", "x...")

	for _, c := range []struct {
		keep   []int
		blocks string
	}{
		{nil, "x..."}, {[]int{0}, "x..."}, {[]int{1}, "a..."}, {[]int{0, 1}, "xb.."}, {[]int{0, 0, 1}, "x.c."}, {[]int{0, 0, 0, 1}, "d..."},
		{[]int{1, 1, 1, 1}, "dbc."}, {[]int{1, 1, 1}, "abc."}, {[]int{1, 0, 0, 1}, "d..."}, {[]int{0, 1, 1, 0}, "xbc."},
		{[]int{0, 0, 0, 0, 1, 1, 1}, "x..."}, {[]int{1, 0, 0, 0, 1}, "a..."}, {make([]int, 5000), "x..."},
		{[]int{-1, 2, -2, 4}, "a..."}, {[]int{2, 3, -4, -6}, "xb.."}, {[]int{math.MinInt, math.MaxInt, 1 << 32, 1<<32 + 1}, "db.."}, {[]int{math.MaxInt, math.MinInt, math.MinInt + 1, 256}, "a.c."},
	} {
		d := filled(t)
		was := slices.Clone(c.keep)
		want(t, "Cut", d.Cut(c.keep...), 4)
		wantDisk(t, "behind a Cut", d, "false 6 0 4", "!14!14!14!14")
		d.Restore()
		wantDisk(t, "behind a Restore", d, "true 6 0 4", c.blocks)
		want(t, "what was handed in stays", slices.Equal(c.keep, was), true)
	}
}

// TestP602WhateverStays goes through all that may stay of seven writes to three blocks, behind ones that last, or behind none.
func TestP602WhateverStays(t *testing.T) {
	places := []int{0, 1, 0, 2, 1, 1, 0}
	for mask := range 1 << len(places) {
		for _, lasting := range []string{"...", "xyz"} {
			d := dev.New(3)
			for at := range lasting {
				if lasting != "..." {
					d.Write(at, block(lasting[at]))
				}
			}
			d.Flush()
			wanted := []byte(lasting)
			var keep []int
			for k, at := range places {
				d.Write(at, block(byte('a'+k)))
				keep = append(keep, mask>>k)
				if mask>>k&1 == 1 {
					wanted[at] = byte('a' + k)
				}
			}
			want(t, "Cut", d.Cut(keep...), len(places))
			d.Restore()
			want(t, "what stays by "+strconv.Itoa(mask), show(d), string(wanted))
		}
	}
}

func TestP602CutWithoutPower(t *testing.T) {
	d := filled(t)
	want(t, "the first Cut", d.Cut(1, 1), 4)
	want(t, "the second one", d.Cut(0, 0, 1, 1), 0)
	want(t, "the third one", d.Cut(), 0)
	wantDisk(t, "without power", d, "false 6 0 4", "!14!14!14!14")
	d.Restore()
	wantDisk(t, "behind a Restore", d, "true 6 0 4", "ab..")
	want(t, "Cut where nothing waits", d.Cut(1), 0)
	want(t, "it goes none the less", d.On(), false)
}

func TestP602WhatStaysLasts(t *testing.T) {
	d := filled(t)
	d.Cut(0, 1, 1)
	d.Restore()
	wantDisk(t, "behind a Restore", d, "true 6 0 4", "xbc.")
	write(t, d, "e  f")
	want(t, "what waits of later writes alone", d.Cut(0, 1), 2)
	d.Restore()
	wantDisk(t, "behind another one", d, "true 8 0 4", "xbcf")
	d.Cut()
	d.Restore()
	d.Restore()
	wantDisk(t, "behind a third one", d, "true 8 0 4", "xbcf")
}

func TestP602RestoreWithPower(t *testing.T) {
	d := filled(t)
	d.Restore()
	wantDisk(t, "what is there lasts", d, "true 6 0 4", "dbc.")
	want(t, "Cut", d.Cut(), 0)
	d.Restore()
	wantDisk(t, "behind a Cut", d, "true 6 0 4", "dbc.")
}

func TestP603Writes(t *testing.T) {
	d := dev.New(2)
	n := 0
	for range 5 {
		write(t, d, "ab")
		d.Flush()
		n += 3
		want(t, "Writes", d.Writes(), n)
		d.Write(2, block('a')) // what is not done is not counted
		d.Write(0, "a")
		d.Read(0)
		d.Cut(1)
		d.Write(0, block('a'))
		d.Flush()
		want(t, "Writes without power", d.Writes(), n)
		d.Restore()
	}
}

// done puts three Writes and two Flushes to a disk, and tells the error of each.
func done(d *dev.Disk) string {
	text := ""
	for k, c := range "efg" {
		text += strconv.Itoa(int(d.Write(3-k, block(byte(c))))) + " "
		if k > 0 {
			text += strconv.Itoa(int(d.Flush())) + " "
		}
	}
	return text + strconv.FormatBool(d.On())
}

func TestP603Arm(t *testing.T) {
	for n, c := range []struct{ told, blocks string }{
		{"14 14 14 14 14 false", "x.c."},    // ahead of the first Write
		{"0 14 14 14 14 false", "x.ce"},     // ahead of the second one
		{"0 0 14 14 14 false", "x.ce"},      // ahead of the Flush: what waits is kept by keep, not by it
		{"0 0 0 14 14 false", "dbfe"},       // behind the Flush
		{"0 0 0 0 14 false", "dbfe"},        // at the second Flush: the third Write waits, and keep's first place is 0
		{"0 0 0 0 0 true", "dgfe"},          // behind all
		{"0 0 0 0 0 true", "dgfe"},          // one more would be done
		{"0 0 0 0 0 true", "dgfe"},          // two more
		{"0 0 0 0 0 true", "dgfe"},          // three more
		{"0 0 0 0 0 true", "dgfe"},          // four more
		{"0 0 0 0 0 true", "dgfe"},          // five more
		{"0 0 0 0 0 true", "dgfe"},          // six more
		{"0 0 0 0 0 true", "dgfe" /* .. */}, // seven more
	} {
		d := filled(t)
		d.Arm(n, 0, 0, 1, 2, -1)
		what := "Arm of " + strconv.Itoa(n)
		want(t, what, done(d), c.told)
		want(t, what+": Writes", d.Writes(), 6+min(n, 5))
		want(t, what+": Waiting", d.Waiting(), 0)
		if n >= 5 {
			for k := 5; k < n; k++ {
				want(t, what+": one of the others", d.Flush(), api.OK)
			}
			want(t, what+": at its end", d.Write(0, block('z')), api.ErrOff)
		}
		want(t, what+": On", d.On(), false)
		d.Restore()
		want(t, what+": the blocks", show(d), c.blocks)
		want(t, what+": not armed any more", done(d), "0 0 0 0 0 true")
	}
}

func TestP603WhatIsArmedIsNoneOfTheWritesThatWait(t *testing.T) {
	d := filled(t)
	d.Arm(0, 0, 0, 0, 0, 1)
	want(t, "Write", d.Write(3, block('z')), api.ErrOff)
	d.Restore()
	wantDisk(t, "the one at which the power goes", d, "true 6 0 4", "x...")
	d = filled(t)
	d.Arm(0)
	want(t, "Flush", d.Flush(), api.ErrOff)
	d.Restore()
	wantDisk(t, "a Flush at which the power goes", d, "true 6 0 4", "x...")
}

func TestP603NotArmed(t *testing.T) {
	for _, n := range []int{-1, -2, math.MinInt} {
		d := filled(t)
		d.Arm(0, 1)
		d.Arm(n, 1)
		want(t, "Arm of "+strconv.Itoa(n), done(d), "0 0 0 0 0 true")
		d.Arm(n)
		want(t, "Arm of "+strconv.Itoa(n)+" of one that is not armed", done(d), "0 0 0 0 0 true")
	}
	d := filled(t)
	want(t, "never armed", done(d), "0 0 0 0 0 true")
	d.Arm(math.MaxInt)
	want(t, "far off", done(d), "0 0 0 0 0 true")
	d.Arm(0)
	d.Cut()
	d.Restore()
	want(t, "behind a Cut", done(d), "0 0 0 0 0 true")
	d.Cut()
	d.Arm(0)
	d.Cut()
	d.Restore()
	want(t, "behind a Cut without power", done(d), "0 0 0 0 0 true")
}

func TestP603ArmedAnew(t *testing.T) {
	d := filled(t)
	d.Arm(3, 1, 1, 1, 1)
	d.Arm(1, 0, 1)
	want(t, "the later one counts", done(d), "0 14 14 14 14 false")
	d.Restore()
	want(t, "and what it keeps", show(d), "xb..")
	d.Arm(0)
	d.Restore()
	want(t, "a Restore leaves it armed", d.Flush(), api.ErrOff)
	d.Arm(1)
	want(t, "nothing is done without power", d.Flush(), api.ErrOff)
	want(t, "nor counted", d.Write(0, block('a')), api.ErrOff)
	d.Restore()
	want(t, "armed without power", done(d), "0 14 14 14 14 false")
}

func TestP603KeepIsItsOwn(t *testing.T) {
	d := filled(t)
	keep := []int{1, 0, 1, 0}
	d.Arm(0, keep...)
	keep[0], keep[1], keep[2], keep[3] = 0, 1, 0, 1
	d.Flush()
	d.Restore()
	want(t, "behind a change of what was handed in", show(d), "a.c.")
	want(t, "what was handed in stays", slices.Equal(keep, []int{0, 1, 0, 1}), true)
}

func TestP603ThroughItsPower(t *testing.T) {
	d := filled(t)
	p := &d.Power
	want(t, "On", p.On(), true)
	want(t, "Writes", p.Writes(), 6)
	p.Arm(0, 1)
	want(t, "Write", d.Write(0, block('a')), api.ErrOff)
	want(t, "On behind it", p.On(), false)
	var zero dev.Power
	zero.Arm(0, 1)
	want(t, "a zero one: On", zero.On(), false)
	want(t, "a zero one: Writes", zero.Writes(), 0)
	var none *dev.Power
	none.Arm(0, 1)
	want(t, "a nil one: On", none.On(), false)
	want(t, "a nil one: Writes", none.Writes(), 0)
}

func TestP604TwinIsTheSame(t *testing.T) {
	d := filled(t)
	for range 3 {
		wantDisk(t, "a twin", d.Twin(), "true 6 4 4", "dbc.")
		d = d.Twin()
	}
	x := d.Twin()
	want(t, "what waits: Cut", x.Cut(0, 1), 4)
	x.Restore()
	wantDisk(t, "what waits", x, "true 6 0 4", "xb..")
	d.Arm(1, 1)
	x = d.Twin()
	want(t, "an armed one", done(x), "0 14 14 14 14 false")
	wantDisk(t, "a dark one", x.Twin(), "false 7 0 4", "!14!14!14!14")
	x.Restore()
	wantDisk(t, "what it kept", x, "true 7 0 4", "a...")
	want(t, "the armed one itself", done(d), "0 14 14 14 14 false")
	d.Arm(0)
	x = d.Twin()
	x.Restore()
	want(t, "armed without power", x.Flush(), api.ErrOff)
}

// apart does to one disk all that can be done, and looks whether the other one stays.
func apart(t *testing.T, what string, one, other *dev.Disk) {
	t.Helper()
	wantDisk(t, what+", ahead of all", other, "true 6 4 4", "dbc.")
	write(t, one, "klmn")
	wantDisk(t, what+": Write", other, "true 6 4 4", "dbc.")
	one.Flush()
	wantDisk(t, what+": Flush", other, "true 6 4 4", "dbc.")
	write(t, one, "p")
	write(t, other, "   q")
	one.Cut(1)
	wantDisk(t, what+": Cut", other, "true 7 5 4", "dbcq")
	one.Restore()
	one.Arm(0)
	wantDisk(t, what+": the one", one, "true 12 0 4", "plmn")
	want(t, what+": the other one", other.Cut(0, 1, 0, 0, 1), 5)
	other.Restore()
	wantDisk(t, what+": behind its Cut", other, "true 7 0 4", "xb.q")
	want(t, what+": armed alone", other.Flush(), api.OK)
}

func TestP604TwinsAndCopiesAreApart(t *testing.T) {
	d := filled(t)
	apart(t, "a twin changed", d.Twin(), d)
	d = filled(t)
	apart(t, "one with a twin changed", d, d.Twin())
	d = filled(t)
	x := *d
	apart(t, "a copy changed", &x, d)
	d = filled(t)
	x = *d
	apart(t, "one with a copy changed", d, &x)
	d = filled(t)
	apart(t, "twins changed", d.Twin(), d.Twin())
}

func TestP604BlocksAndWaiting(t *testing.T) {
	d := filled(t)
	want(t, "Waiting", d.Waiting(), 4)
	d.Cut(1, 1, 1, 1)
	want(t, "Waiting without power", d.Waiting(), 0)
	want(t, "Blocks without power", d.Blocks(), 4)
	d.Restore()
	want(t, "Waiting behind a Restore", d.Waiting(), 0)
	want(t, "Blocks behind a Restore", d.Blocks(), 4)
}

func TestP604Zero(t *testing.T) {
	var zero dev.Disk
	for range 2 {
		wantDisk(t, "a zero one", &zero, "false 0 0 0", "")
		want(t, "a zero one: Write", zero.Write(0, block('a')), api.ErrOff)
		want(t, "a zero one: a wrong Write", zero.Write(-1, ""), api.ErrOff)
		s, e := zero.Read(0)
		want(t, "a zero one: Read", e, api.ErrOff)
		want(t, "a zero one: the bytes", s, "")
		want(t, "a zero one: Flush", zero.Flush(), api.ErrOff)
		want(t, "a zero one: Cut", zero.Cut(1, 1), 0)
		zero.Restore()
		zero.Arm(0, 1)
		wantDisk(t, "a zero one's twin", zero.Twin(), "false 0 0 0", "")
	}
}

func TestP604Nil(t *testing.T) {
	var none *dev.Disk
	want(t, "a nil one: Write", none.Write(0, block('a')), api.ErrOff)
	want(t, "a nil one: a wrong Write", none.Write(-1, ""), api.ErrOff)
	s, e := none.Read(0)
	want(t, "a nil one: Read", e, api.ErrOff)
	want(t, "a nil one: the bytes", s, "")
	want(t, "a nil one: Flush", none.Flush(), api.ErrOff)
	want(t, "a nil one: Cut", none.Cut(1, 1), 0)
	none.Restore()
	want(t, "a nil one: Blocks", none.Blocks(), 0)
	want(t, "a nil one: Waiting", none.Waiting(), 0)
	want(t, "a nil one: Twin", none.Twin(), nil)
}

// model is a disk as the chapter words it: all writes that ever were, each with whether it lasts.
type model struct {
	on, armed  bool
	done, left int
	keep       []int
	blocks     int
	writes     []modelWrite
}

type modelWrite struct {
	at    int
	c     byte
	waits bool
}

func (m *model) waiting() int {
	n := 0
	for _, w := range m.writes {
		if w.waits {
			n++
		}
	}
	return n
}

func (m *model) show() string {
	text := ""
	for at := range m.blocks {
		c := byte('.')
		for _, w := range m.writes {
			if w.at == at {
				c = w.c
			}
		}
		if m.on {
			text += string([]byte{c})
		} else {
			text += "!14"
		}
	}
	return text
}

func (m *model) settle() {
	for i := range m.writes {
		m.writes[i].waits = false
	}
}

func (m *model) cut(keep []int) int {
	m.armed = false
	if !m.on {
		return 0
	}
	n := m.waiting()
	var stay []modelWrite
	k := 0
	for _, w := range m.writes {
		if !w.waits || k < len(keep) && (keep[k]%2 == 1 || keep[k]%2 == -1) {
			stay = append(stay, w)
		}
		if w.waits {
			k++
		}
	}
	m.writes, m.on = stay, false
	m.settle()
	return n
}

// begin tells whether a Write or Flush is done.
func (m *model) begin() bool {
	if m.armed && m.left == 0 {
		m.cut(m.keep)
		return false
	}
	m.left--
	m.done++
	return true
}

func (m *model) write(at int, c byte, size int) api.Errno {
	switch {
	case !m.on:
		return api.ErrOff
	case size != 256:
		return api.ErrArg
	case at < 0 || at >= m.blocks:
		return api.ErrRange
	case !m.begin():
		return api.ErrOff
	}
	m.writes = append(m.writes, modelWrite{at, c, true})
	return api.OK
}

func (m *model) flush() api.Errno {
	if !m.on || !m.begin() {
		return api.ErrOff
	}
	m.settle()
	return api.OK
}

func (m *model) twin() *model {
	x := *m
	x.writes = slices.Clone(m.writes)
	return &x
}

// series is a row of numbers without a plain rule, which is the same for the same start.
type series struct{ at uint64 }

// below tells the next number, from 0 to n - 1.
func (s *series) below(n int) int {
	s.at = s.at*6364136223846793005 + 1442695040888963407
	return int(s.at >> 33 % uint64(n))
}

// step does one thing, told by r, to a disk and to its model, and tells what it was and whether both answered alike.
func step(r *series, d *dev.Disk, m *model) (string, bool) {
	var keep []int
	for range r.below(8) {
		keep = append(keep, r.below(9)-4)
	}
	switch x := r.below(40); {
	case x < 5:
		return "Flush", d.Flush() == m.flush()
	case x < 6:
		return "Cut", d.Cut(keep...) == m.cut(keep)
	case x < 11:
		d.Restore()
		m.on = true
		m.settle()
		return "Restore", true
	case x < 13:
		n := r.below(12) - 2
		d.Arm(n, keep...)
		m.armed, m.left, m.keep = n >= 0, n, keep
		return "Arm", true
	case x < 14:
		return "a wrong Write", d.Write(0, "short") == m.write(0, 's', 5)
	}
	at, c := r.below(m.blocks+2)-1, byte('a'+r.below(26))
	return "Write", d.Write(at, block(c)) == m.write(at, c, 256)
}

// TestP604AsTheModel does many things in any order to disks of several sizes, and to twins of them, and holds all that can be asked against the model.
func TestP604AsTheModel(t *testing.T) {
	for seed := range 60 {
		r := &series{uint64(seed)}
		n := []int{1, 3, 70}[seed%3]
		d, m := dev.New(n), &model{on: true, blocks: n}
		var kept *dev.Disk
		var keptModel *model
		for k := range 400 {
			what, alike := step(r, d, m)
			what = strconv.Itoa(seed) + "/" + strconv.Itoa(k) + ": " + what
			want(t, what+" answers alike", alike, true)
			state := strconv.FormatBool(m.on) + " " + strconv.Itoa(m.done) + " " + strconv.Itoa(m.waiting()) + " " + strconv.Itoa(n)
			wantDisk(t, what, d, state, m.show())
			switch r.below(12) {
			case 0:
				kept, keptModel = d.Twin(), m.twin()
			case 1:
				if kept != nil {
					d, kept, m, keptModel = kept, d, keptModel, m
				}
			}
			if t.Failed() {
				return
			}
		}
	}
}

// TestP602GreatDisk writes to each block of the greatest disk, and lets each other write be lost.
func TestP602GreatDisk(t *testing.T) {
	d := dev.New(api.MaxBlocks)
	var keep []int
	wanted := ""
	for i := range api.MaxBlocks {
		at := i * 1027 % api.MaxBlocks // each once, in another order
		want(t, "Write", d.Write(at, block(byte('a'+at%26))), api.OK)
		keep = append(keep, at%2)
		if i%2 == 0 {
			wanted += "."
		} else {
			wanted += string([]byte{byte('a' + i%26)})
		}
	}
	want(t, "Cut", d.Cut(keep...), api.MaxBlocks)
	d.Restore()
	want(t, "what stays", show(d) == wanted, true)
}
