package crc_test

import (
	"hash/crc32"
	"strconv"
	"strings"
	"testing"

	"sediment/api"
	"sediment/crc"
)

// want holds an answer against what is wanted.
func want[T comparable](t *testing.T, what string, got, wanted T) {
	t.Helper()
	if got != wanted {
		t.Errorf("%s: %v, not %v", what, got, wanted)
	}
}

// wantOpen holds what Open tells of b against what is wanted.
func wantOpen(t *testing.T, what, b, text string, e api.Errno) {
	t.Helper()
	got, bad := crc.Open(b)
	if got != text || bad != e {
		t.Errorf("%s: Open is %q, %d, not %q, %d", what, got, bad, text, e)
	}
}

// sum is the sum of s, as the library reckons it.
func sum(s string) uint32 { return crc32.Checksum([]byte(s), crc32.MakeTable(crc32.Koopman)) }

// texts are such as may be summed: short and long ones, of all bytes, and of bytes that differ in little.
func texts() []string {
	l := []string{"", "123456789", "hello", "\x00", "\x00\x00\x00\x00", "\xff", "\xff\xff\xff\xff", "a\x00", "\x00a", "\u00e9\u20ac\U0001f600", "\xe9\x80"}
	for i := range 256 {
		l = append(l, string([]byte{byte(i)}))
	}
	text := ""
	for i := range 600 {
		text += string([]byte{byte(i * 73), byte(i)})
		l = append(l, text)
	}
	return append(l, strings.Repeat("a long text", 20000))
}

func TestP201Of(t *testing.T) {
	want(t, "the example", crc.Of("123456789"), 0x2d3dd0ae)
	want(t, "nothing", crc.Of(), 0)
	want(t, "empty texts", crc.Of("", "", ""), 0)
	for _, s := range texts() {
		want(t, "a text of "+strconv.Itoa(len(s))+" bytes", crc.Of(s), sum(s))
	}
}

func TestP201OneBehindTheOther(t *testing.T) {
	text := "123456789\x00\xff\xe9\x80"
	wanted := sum(text)
	for i := range len(text) + 1 {
		for k := i; k <= len(text); k++ {
			what := "cut at " + strconv.Itoa(i) + " and " + strconv.Itoa(k)
			want(t, what, crc.Of(text[:i], text[i:k], text[k:]), wanted)
			var s crc.Sum
			s.Add(text[:i])
			s.Add(text[i:k], text[k:])
			want(t, what+", added", s.Value(), wanted)
		}
	}
	want(t, "byte for byte", crc.Of(strings.Split("123456789", "")...), 0x2d3dd0ae)
	want(t, "the order counts", crc.Of("56789", "1234"), sum("567891234"))
}

func TestP201Sum(t *testing.T) {
	var s crc.Sum
	want(t, "a zero one", s.Value(), 0)
	s.Add()
	want(t, "behind an Add of none", s.Value(), 0)
	s.Add("", "")
	want(t, "behind an Add of empty ones", s.Value(), 0)
	text := ""
	for _, x := range texts()[:400] {
		s.Add(x)
		text += x
		want(t, "as far as it has come", s.Value(), sum(text))
		s.Add()
		s.Add("")
		want(t, "told again", s.Value(), sum(text))
	}
}

func TestP201CopiesAreApart(t *testing.T) {
	var p crc.Sum
	p.Add("1234")
	q, kept := p, p
	p.Add("56789")
	q.Add("other")
	want(t, "the one", p.Value(), 0x2d3dd0ae)
	want(t, "its copy", q.Value(), sum("1234other"))
	want(t, "the one that was kept", kept.Value(), sum("1234"))
	var r crc.Sum
	r.Add("123456789")
	want(t, "two of the same bytes are the same", p == r, true)
}

func TestP201HandedInStays(t *testing.T) {
	l := []string{"1234", "56789"}
	var s crc.Sum
	s.Add(l...)
	want(t, "Of", crc.Of(l...), 0x2d3dd0ae)
	want(t, "what was handed in", l[0] == "1234" && l[1] == "56789", true)
	l[0], l[1] = "a", "b"
	want(t, "behind a change of what was handed in", s.Value(), 0x2d3dd0ae)
}

func TestP202Close(t *testing.T) {
	want(t, "the example", crc.Close("123456789"), "123456789\xae\xd0\x3d\x2d")
	want(t, "nothing", crc.Close(""), "\x00\x00\x00\x00")
	for _, s := range texts() {
		v := sum(s)
		want(t, "Close", crc.Close(s), s+string([]byte{byte(v), byte(v >> 8), byte(v >> 16), byte(v >> 24)}))
	}
	once := crc.Close("hello")
	want(t, "closed twice", crc.Close(once)[:9], once)
}

func TestP202Open(t *testing.T) {
	wantOpen(t, "the example", "123456789\xae\xd0\x3d\x2d", "123456789", api.OK)
	wantOpen(t, "nothing", "\x00\x00\x00\x00", "", api.OK)
	wantOpen(t, "closed twice", crc.Close(crc.Close("hello")), crc.Close("hello"), api.OK)
	for _, b := range []string{"", "\x00", "\x00\x00", "\x00\x00\x00", "a", "abc"} {
		wantOpen(t, "too few bytes", b, "", api.ErrShort)
	}
	wrong := []string{
		"\x00\x00\x00\x01", "\xff\xff\xff\xff", "1234", "\x00\x00\x00\x00\x00",
		"123456789\x2d\x3d\xd0\xae",  // the highest first
		"\xae\xd0\x3d\x2d123456789",  // the sum ahead
		"123456789\x51\x2f\xc2\xd2",  // without the last exclusive or
		"123456789\xae\xd0\x3d",      // one byte less
		"123456789\xae\xd0\x3d\x2d ", // one byte more
		"23456789\xae\xd0\x3d\x2d",
		"123456789",
	}
	for _, b := range wrong {
		wantOpen(t, strconv.Quote(b), b, "", api.ErrSum)
	}
}

func TestP203OpenOfClose(t *testing.T) {
	for _, s := range texts() {
		wantOpen(t, "a text of "+strconv.Itoa(len(s))+" bytes", crc.Close(s), s, api.OK)
	}
}

func TestP203OneByteIsChanged(t *testing.T) {
	for _, s := range []string{"", "\x00", "hello", "123456789", strings.Repeat("\x00", 40), strings.Repeat("\xff\x01", 100)} {
		b := crc.Close(s)
		for i := range len(b) {
			for k := 1; k < 256; k++ {
				spoilt := b[:i] + string([]byte{b[i] ^ byte(k)}) + b[i+1:]
				wantOpen(t, "byte "+strconv.Itoa(i)+" of "+strconv.Quote(b)+" changed", spoilt, "", api.ErrSum)
			}
		}
	}
}

func TestP203NilSum(t *testing.T) {
	var s *crc.Sum
	want(t, "a nil one", s.Value(), 0)
	s.Add("x")
	s.Add("1234", "56789")
	s.Add()
	want(t, "a nil one, behind Add", s.Value(), 0)
}
