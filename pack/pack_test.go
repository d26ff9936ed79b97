package pack_test

import (
	"encoding/binary"
	"math"
	"strconv"
	"strings"
	"testing"

	"sediment/api"
	"sediment/pack"
)

const zeros = "\x00\x00\x00\x00\x00\x00\x00\x00\x00\x00\x00\x00\x00\x00\x00\x00"

// wantPut holds what f puts against the bytes that are wanted.
func wantPut(t *testing.T, what string, f func(p *pack.Packer), want string) {
	t.Helper()
	p := &pack.Packer{}
	f(p)
	if s, e := p.Done(); s != want || e != api.OK {
		t.Errorf("%s: Done is %x, %d, not %x", what, s, e, want)
	}
	if p.Len() != len(want) {
		t.Errorf("%s: Len is %d, not %d", what, p.Len(), len(want))
	}
}

// wantStop holds the error that f runs into, and how many bytes there are then, against what is wanted.
func wantStop(t *testing.T, what string, f func(p *pack.Packer), want api.Errno, n int) {
	t.Helper()
	p := &pack.Packer{}
	f(p)
	if s, e := p.Done(); s != "" || e != want {
		t.Errorf("%s: Done is %x, %d, not none, %d", what, s, e, want)
	}
	if p.Len() != n {
		t.Errorf("%s: Len is %d, not %d", what, p.Len(), n)
	}
}

// wantAt holds an Unpacker's error, and how many bytes it has left, against what is wanted.
func wantAt(t *testing.T, what string, u *pack.Unpacker, bad api.Errno, left int) {
	t.Helper()
	if u.Bad() != bad || u.Left() != left {
		t.Errorf("%s: Bad is %d, Left %d, not %d, %d", what, u.Bad(), u.Left(), bad, left)
	}
}

// want holds an answer against what is wanted.
func want[T comparable](t *testing.T, what string, got, wanted T) {
	t.Helper()
	if got != wanted {
		t.Errorf("%s: %v, not %v", what, got, wanted)
	}
}

func TestP101IntsAndWords(t *testing.T) {
	wantPut(t, "nothing", func(p *pack.Packer) {}, "")
	wantPut(t, "no ints", func(p *pack.Packer) { p.Ints(); p.Words() }, "")
	wantPut(t, "ints", func(p *pack.Packer) { p.Ints(258, 0); p.Ints(-2) },
		"\x02\x01\x00\x00\x00\x00\x00\x00"+zeros[:8]+"\xfe\xff\xff\xff\xff\xff\xff\xff")
	wantPut(t, "the least int", func(p *pack.Packer) { p.Ints(math.MinInt) }, zeros[:7]+"\x80")
	wantPut(t, "the greatest int", func(p *pack.Packer) { p.Ints(math.MaxInt) }, "\xff\xff\xff\xff\xff\xff\xff\x7f")
	wantPut(t, "words", func(p *pack.Packer) { p.Words(0x0807060504030201, math.MaxUint64) },
		"\x01\x02\x03\x04\x05\x06\x07\x08\xff\xff\xff\xff\xff\xff\xff\xff")
}

func TestP101Small(t *testing.T) {
	wantPut(t, "the example", func(p *pack.Packer) { p.Small(2, 258, 1); p.Names("ab") }, "\x02\x01\x01\x00\x02ab"+zeros[:13])
	wantPut(t, "none", func(p *pack.Packer) { p.Small(3) }, "")
	for size := 1; size <= 7; size++ {
		end := 1 << (8 * size)
		wantPut(t, "ends", func(p *pack.Packer) { p.Small(size, 0, end-1) }, zeros[:size]+strings.Repeat("\xff", size))
		wantStop(t, "one above", func(p *pack.Packer) { p.Small(size, end) }, api.ErrArg, 0)
		wantStop(t, "one below", func(p *pack.Packer) { p.Small(size, -1) }, api.ErrArg, 0)
		wantStop(t, "far off", func(p *pack.Packer) { p.Small(size, math.MinInt) }, api.ErrArg, 0)
		wantStop(t, "those ahead stand", func(p *pack.Packer) { p.Small(size, 1, 2, end, 3) }, api.ErrArg, 2*size)
	}
	for _, size := range []int{0, 8, -1, 9, math.MinInt, math.MaxInt} {
		wantStop(t, "a wrong size", func(p *pack.Packer) { p.Small(size, 1) }, api.ErrArg, 0)
		wantStop(t, "a wrong size of none", func(p *pack.Packer) { p.Ints(1); p.Small(size) }, api.ErrArg, 8)
	}
}

func TestP101Names(t *testing.T) {
	long := strings.Repeat("n", api.MaxName)
	wantPut(t, "names", func(p *pack.Packer) { p.Names("", "a\x00\xff"); p.Names(); p.Names(long) },
		zeros+"\x03a\x00\xff"+zeros[:12]+"\x0f"+long)
	wantStop(t, "a long one", func(p *pack.Packer) { p.Names(long + "n") }, api.ErrLong, 0)
	wantStop(t, "a long one by 256", func(p *pack.Packer) { p.Names(strings.Repeat("n", 256)) }, api.ErrLong, 0)
	wantStop(t, "those ahead stand", func(p *pack.Packer) { p.Names("a", "b", long+"n", "c") }, api.ErrLong, 32)
}

func TestP101Text(t *testing.T) {
	long := strings.Repeat("t", 60000)
	wantPut(t, "texts", func(p *pack.Packer) { p.Text("hi"); p.Text(""); p.Text("\x00\xff") }, "\x02\x00hi\x00\x00\x02\x00\x00\xff")
	wantPut(t, "the longest", func(p *pack.Packer) { p.Text(long) }, "\x60\xea"+long)
	wantStop(t, "one more", func(p *pack.Packer) { p.Text("a"); p.Text(long + "t") }, api.ErrLong, 3)
	wantStop(t, "many more", func(p *pack.Packer) { p.Text(strings.Repeat("t", 65537)) }, api.ErrLong, 0)
}

func TestP101Fill(t *testing.T) {
	wantPut(t, "none", func(p *pack.Packer) { p.Fill(0) }, "")
	wantPut(t, "some", func(p *pack.Packer) { p.Small(1, 9); p.Fill(3); p.Fill(3); p.Small(1, 8); p.Fill(6) }, "\x09\x00\x00\x08\x00\x00")
	wantPut(t, "all", func(p *pack.Packer) { p.Fill(60000) }, strings.Repeat("\x00", 60000))
	wantStop(t, "more are there", func(p *pack.Packer) { p.Small(1, 9, 9); p.Fill(1) }, api.ErrLong, 2)
	wantStop(t, "more are there than none", func(p *pack.Packer) { p.Small(1, 9); p.Fill(0) }, api.ErrLong, 1)
	wantStop(t, "more are there than may be filled", func(p *pack.Packer) { p.Fill(59999); p.Ints(1); p.Fill(60000) }, api.ErrLong, 60007)
	for _, n := range []int{-1, 60001, math.MinInt, math.MaxInt} {
		wantStop(t, "no length", func(p *pack.Packer) { p.Fill(n) }, api.ErrArg, 0)
		wantStop(t, "no length, behind some bytes", func(p *pack.Packer) { p.Words(1); p.Fill(n) }, api.ErrArg, 8)
	}
}

func TestP101TheFirstErrorStays(t *testing.T) {
	wrong := []func(p *pack.Packer){
		func(p *pack.Packer) { p.Small(8) },
		func(p *pack.Packer) { p.Names(strings.Repeat("n", 16)) },
		func(p *pack.Packer) { p.Small(1, 256) },
		func(p *pack.Packer) { p.Text(strings.Repeat("t", 60001)) },
		func(p *pack.Packer) { p.Fill(-1) },
		func(p *pack.Packer) { p.Fill(1) },
	}
	errs := []api.Errno{api.ErrArg, api.ErrLong, api.ErrArg, api.ErrLong, api.ErrArg, api.ErrLong}
	for i, first := range wrong {
		wantStop(t, "wrong call "+strconv.Itoa(i), func(p *pack.Packer) {
			p.Text("text")
			first(p)
			for _, f := range wrong {
				f(p)
			}
			p.Ints(1)
			p.Words(1)
			p.Small(1, 1)
			p.Names("n")
			p.Text("t")
			p.Fill(100)
		}, errs[i], 6)
	}
}

func TestP101DoneChangesNothing(t *testing.T) {
	wantPut(t, "going on behind Done", func(p *pack.Packer) {
		p.Small(1, 1)
		p.Done()
		p.Done()
		p.Small(1, 2)
	}, "\x01\x02")
}

func TestP101CopiesAreApart(t *testing.T) {
	var p pack.Packer
	for i := range 40 {
		p.Small(1, i)
		before, _ := p.Done()
		q := p
		kept := p
		p.Small(1, 100)
		q.Small(1, 200, 201)
		one, _ := p.Done()
		other, _ := q.Done()
		was, _ := kept.Done()
		want(t, "the one", one, before+"\x64")
		want(t, "its copy", other, before+"\xc8\xc9")
		want(t, "the one that was kept", was, before)
		q.Fill(-1)
		_, e := p.Done()
		want(t, "a copy's error", e, api.OK)
	}
}

func TestP101HandedInStays(t *testing.T) {
	ints, words, names := []int{1, 2}, []uint64{3}, []string{"a"}
	var p pack.Packer
	p.Ints(ints...)
	p.Small(1, ints...)
	p.Words(words...)
	p.Names(names...)
	want(t, "what was handed in", ints[0] == 1 && ints[1] == 2 && words[0] == 3 && names[0] == "a", true)
	before, _ := p.Done()
	ints[0], words[0], names[0] = 9, 9, "b"
	after, _ := p.Done()
	want(t, "behind a change of what was handed in", after, before)
}

func TestP102IntAndWord(t *testing.T) {
	u := pack.From("\x02\x01\x00\x00\x00\x00\x00\x00" + "\xfe\xff\xff\xff\xff\xff\xff\xff" + zeros[:7] + "\x80" + "\xfe\xff\xff\xff\xff\xff\xff\xff" + "1234567")
	want(t, "an int", u.Int(), 258)
	want(t, "one below 0", u.Int(), -2)
	want(t, "the least", u.Int(), math.MinInt)
	want(t, "a word", u.Word(), math.MaxUint64-1)
	wantAt(t, "all is well", u, api.OK, 7)
	want(t, "too few bytes", u.Word(), 0)
	wantAt(t, "of a word", u, api.ErrShort, 7)
	u = pack.From("1234567")
	want(t, "too few bytes", u.Int(), 0)
	wantAt(t, "of an int", u, api.ErrShort, 7)
}

func TestP102Small(t *testing.T) {
	bytes := "\x01\x02\x03\x04\x05\x06\xff"
	sizes := []int{0x01, 0x0201, 0x030201, 0x04030201, 0x0504030201, 0x060504030201, 0xff060504030201}
	for i, v := range sizes {
		u := pack.From(bytes)
		want(t, "a small one", u.Small(i+1), v)
		wantAt(t, "a small one", u, api.OK, 6-i)
		u = pack.From(bytes[:i])
		want(t, "too few bytes", u.Small(i+1), 0)
		wantAt(t, "too few bytes", u, api.ErrShort, i)
	}
	for _, size := range []int{0, 8, -1, math.MinInt, math.MaxInt} {
		for _, b := range []string{"", "1", zeros} {
			u := pack.From(b)
			want(t, "a wrong size", u.Small(size), 0)
			wantAt(t, "a wrong size", u, api.ErrArg, len(b))
		}
	}
}

func TestP102Name(t *testing.T) {
	name := func(b, wanted string, bad api.Errno, left int) {
		t.Helper()
		u := pack.From(b)
		want(t, "a name", u.Name(), wanted)
		wantAt(t, "a name", u, bad, left)
	}
	name(zeros, "", api.OK, 0)
	name("\x02ab"+zeros[:13]+"more", "ab", api.OK, 4)
	name("\x0f"+strings.Repeat("n", 15), strings.Repeat("n", 15), api.OK, 0)
	name("\x02a"+zeros[:14], "a\x00", api.OK, 0)
	name("\x10"+strings.Repeat("n", 15)+"n", "", api.ErrForm, 1)
	name("\xff"+zeros[:15], "", api.ErrForm, 0)
	name("\x01ab"+zeros[:13]+"more", "", api.ErrForm, 4)
	name("\x00"+zeros[:14]+"\x01", "", api.ErrForm, 0)
	name("\x0e"+strings.Repeat("n", 15), "", api.ErrForm, 0)
	name("", "", api.ErrShort, 0)
	name("\x01a"+zeros[:13], "", api.ErrShort, 15)
	name("\x10", "", api.ErrShort, 1)
	name("\x01ab", "", api.ErrShort, 3)
}

func TestP102Text(t *testing.T) {
	text := func(b, wanted string, bad api.Errno, left int) {
		t.Helper()
		u := pack.From(b)
		want(t, "a text", u.Text(), wanted)
		wantAt(t, "a text", u, bad, left)
	}
	long := strings.Repeat("t", 65535)
	text("\x02\x00abc", "ab", api.OK, 1)
	text("\x00\x00", "", api.OK, 0)
	text("\x60\xea"+long[:60000], long[:60000], api.OK, 0)
	text("\xff\xff"+long, long, api.OK, 0)
	text("", "", api.ErrShort, 0)
	text("\x02", "", api.ErrShort, 1)
	text("\x02\x00a", "", api.ErrShort, 3)
	text("\x00\x01"+long[:255], "", api.ErrShort, 257)
}

func TestP102TheFirstErrorStays(t *testing.T) {
	stops := []func(u *pack.Unpacker){
		func(u *pack.Unpacker) { u.Small(0) },
		func(u *pack.Unpacker) { u.Name() },
		func(u *pack.Unpacker) { u.Text() },
	}
	errs := []api.Errno{api.ErrArg, api.ErrForm, api.ErrShort}
	lefts := []int{20, 4, 20}
	b := "\x64\x00" + strings.Repeat("1", 18)
	for i, first := range stops {
		u := pack.From(b)
		first(u)
		for _, f := range stops {
			f(u)
		}
		want(t, "Int", u.Int(), 0)
		want(t, "Small", u.Small(1), 0)
		want(t, "Word", u.Word(), 0)
		want(t, "Name", u.Name(), "")
		want(t, "Text", u.Text(), "")
		wantAt(t, "the first error", u, errs[i], lefts[i])
		want(t, "Rest", u.Rest(), b[len(b)-lefts[i]:])
		wantAt(t, "behind Rest", u, errs[i], 0)
	}
}

func TestP102Rest(t *testing.T) {
	u := pack.From("12345678rest")
	u.Word()
	want(t, "Left", u.Left(), 4)
	want(t, "Rest", u.Rest(), "rest")
	want(t, "Rest again", u.Rest(), "")
	wantAt(t, "behind Rest", u, api.OK, 0)
	want(t, "a text of nothing", u.Text(), "")
	wantAt(t, "a text of nothing", u, api.ErrShort, 0)
	want(t, "all", pack.From("all").Rest(), "all")
}

func TestP102CopiesAreApart(t *testing.T) {
	u := pack.From("\x01\x02\x03")
	u.Small(1)
	c := *u
	want(t, "the one", u.Small(2), 0x0302)
	want(t, "its copy", c.Small(1), 2)
	u.Int()
	wantAt(t, "the one", u, api.ErrShort, 0)
	wantAt(t, "its copy", &c, api.OK, 1)
}

func TestP103Digits(t *testing.T) {
	want(t, "0", pack.Digits(0), "0")
	want(t, "one above 0", pack.Digits(1234567890), "1234567890")
	want(t, "one below 0", pack.Digits(-50), "-50")
	want(t, "the least", pack.Digits(math.MinInt), "-9223372036854775808")
	want(t, "the greatest", pack.Digits(math.MaxInt), "9223372036854775807")
}

func TestP103Number(t *testing.T) {
	good := []struct {
		s string
		v int
	}{
		{"0", 0}, {"7", 7}, {"-7", -7}, {"10", 10}, {"-100", -100}, {"123456789", 123456789},
		{"100000000000000000", 1e17}, {"999999999999999999", 1e18 - 1}, {"-999999999999999999", 1 - 1e18},
	}
	for _, g := range good {
		v, e := pack.Number(g.s)
		want(t, g.s, v, g.v)
		want(t, g.s, e, api.OK)
	}
	wrong := []string{
		"", "-", "--1", "-0", "00", "01", "-01", "+1", "+0", "1-", " 1", "1 ", "1\n", "1x", "x", "1.0", "1e3", "0x1", "1_0", "1,0",
		"1000000000000000000", "-1000000000000000000", "9223372036854775807", "-9223372036854775808", "9223372036854775808",
		"0000000000000000001", "000000000000000001", strings.Repeat("9", 1000), "\u0661", "\u22121", "1\x00", "\xff",
	}
	for _, s := range wrong {
		v, e := pack.Number(s)
		want(t, strconv.Quote(s), v, 0)
		want(t, strconv.Quote(s), e, api.ErrArg)
	}
}

// row makes numbers that look like any, always the same ones.
type row uint64

func (r *row) next() int {
	*r = *r*6364136223846793005 + 1442695040888963407
	return int(*r >> 33)
}

func (r *row) text(most int) string {
	b := make([]byte, r.next()%(most+1))
	for i := range b {
		b[i] = byte(r.next())
	}
	return string(b)
}

// putOne puts something of a kind, and answers its bytes as the document has them, and how to look whether it is read as it was.
func putOne(r *row, p *pack.Packer) (string, func(u *pack.Unpacker) bool) {
	switch r.next() % 5 {
	case 0:
		v := r.next()<<40 ^ r.next()<<20 ^ r.next()
		p.Ints(v)
		return string(binary.LittleEndian.AppendUint64(nil, uint64(v))), func(u *pack.Unpacker) bool { return u.Int() == v }
	case 1:
		size := 1 + r.next()%7
		v := (r.next()<<31 ^ r.next()) & (1<<(8*size) - 1)
		p.Small(size, v)
		return string(binary.LittleEndian.AppendUint64(nil, uint64(v))[:size]), func(u *pack.Unpacker) bool { return u.Small(size) == v }
	case 2:
		v := uint64(r.next())<<40 ^ uint64(r.next())
		p.Words(v)
		return string(binary.LittleEndian.AppendUint64(nil, v)), func(u *pack.Unpacker) bool { return u.Word() == v }
	case 3:
		s := r.text(api.MaxName)
		p.Names(s)
		return string([]byte{byte(len(s))}) + s + zeros[:15-len(s)], func(u *pack.Unpacker) bool { return u.Name() == s }
	}
	s := r.text(300)
	p.Text(s)
	return string(binary.LittleEndian.AppendUint16(nil, uint16(len(s)))) + s, func(u *pack.Unpacker) bool { return u.Text() == s }
}

func TestP104WhatWasPutIsRead(t *testing.T) {
	r := row(1)
	for range 300 {
		var p pack.Packer
		var reads []func(u *pack.Unpacker) bool
		wanted := ""
		for range r.next() % 30 {
			b, read := putOne(&r, &p)
			wanted += b
			reads = append(reads, read)
		}
		b, e := p.Done()
		want(t, "the bytes", b, wanted)
		want(t, "their error", e, api.OK)
		u := pack.From(b)
		for i, read := range reads {
			want(t, "thing "+strconv.Itoa(i)+" as it was", read(u), true)
		}
		wantAt(t, "behind all", u, api.OK, 0)
	}
}

func TestP104NilAndZero(t *testing.T) {
	var p *pack.Packer
	p.Ints(1)
	p.Small(1, 1)
	p.Small(0, 1)
	p.Words(1)
	p.Names("n", strings.Repeat("n", 16))
	p.Text("t")
	p.Text(strings.Repeat("t", 60001))
	p.Fill(1)
	p.Fill(-1)
	b, e := p.Done()
	want(t, "a nil Packer's bytes", b, "")
	want(t, "a nil Packer's error", e, api.ErrArg)
	want(t, "a nil Packer's Len", p.Len(), 0)

	var u *pack.Unpacker
	var zero pack.Unpacker
	for _, x := range []*pack.Unpacker{u, &zero} {
		want(t, "Rest", x.Rest(), "")
		want(t, "Left", x.Left(), 0)
		want(t, "Int", x.Int(), 0)
		want(t, "Word", x.Word(), 0)
		want(t, "Name", x.Name(), "")
		want(t, "Text", x.Text(), "")
		want(t, "Small", x.Small(1), 0)
		want(t, "Small of a wrong size", x.Small(0), 0)
	}
	wantAt(t, "a nil Unpacker", u, api.ErrArg, 0)
	wantAt(t, "a zero Unpacker", &zero, api.ErrShort, 0)
	var fresh pack.Unpacker
	wantAt(t, "a fresh Unpacker", &fresh, api.OK, 0)
}
