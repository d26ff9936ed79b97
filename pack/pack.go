// Package pack lays numbers and texts into bytes.
package pack

import (
	"strconv"
	"strings"

	"sediment/api"
)

const (
	wordSize = 8                   // bytes of an int, and of a number without a sign
	maxSmall = 7                   // bytes of a small number, at most
	textHead = 2                   // bytes that tell how long a text is
	nameSize = 1 + api.MaxName     // bytes of a name, with its length
	maxText  = 60000               // bytes of a text, and of what Fill fills
	tooGreat = 1000000000000000000 // the first number of more than 18 digits
)

// progress is how far a Packer or an Unpacker has come: so many bytes are put, or read; bad is the first error.
type progress struct {
	at  int
	bad api.Errno
}

// stopped tells whether there is an error already.
func (g *progress) stopped() bool { return g.bad != api.OK }

// stop keeps an error, if it is the first one.
func (g *progress) stop(e api.Errno) {
	if !g.stopped() {
		g.bad = e
	}
}

// pass goes on by n bytes.
func (g *progress) pass(n int) { g.at += n }

// piece is what one call put, and the pieces ahead of it. A piece is never changed once it is made, so a copy of a Packer may share it.
type piece struct {
	before *piece
	bytes  string
}

// Packer puts things one behind the other. A zero one is ready.
type Packer struct {
	progress
	last *piece
}

// put puts b, and stops behind it if e is an error: what stands ahead of a wrong value is there.
func (p *Packer) put(b []byte, e api.Errno) {
	if p == nil || p.stopped() {
		return
	}
	if len(b) > 0 {
		p.last = &piece{p.last, string(b)}
		p.pass(len(b))
	}
	p.stop(e)
}

// Ints puts each of v in 8 bytes, the lowest first.
func (p *Packer) Ints(v ...int) {
	var b []byte
	for _, x := range v {
		b = lay(b, wordSize, uint64(x))
	}
	p.put(b, api.OK)
}

// Small puts each of v in size bytes, the lowest first.
func (p *Packer) Small(size int, v ...int) {
	if !isSmall(size) {
		p.put(nil, api.ErrArg)
		return
	}
	var b []byte
	for _, x := range v {
		if x < 0 || x >= 1<<(8*size) {
			p.put(b, api.ErrArg)
			return
		}
		b = lay(b, size, uint64(x))
	}
	p.put(b, api.OK)
}

// Words puts each of v in 8 bytes, the lowest first.
func (p *Packer) Words(v ...uint64) {
	var b []byte
	for _, x := range v {
		b = lay(b, wordSize, x)
	}
	p.put(b, api.OK)
}

// Names puts each of s in 16 bytes: its length, its bytes, bytes 0.
func (p *Packer) Names(s ...string) {
	var b []byte
	for _, x := range s {
		if len(x) > api.MaxName {
			p.put(b, api.ErrLong)
			return
		}
		b = append(b, byte(len(x)))
		b = append(b, x...)
		b = append(b, make([]byte, api.MaxName-len(x))...)
	}
	p.put(b, api.OK)
}

// Text puts the length of s in 2 bytes, and its bytes.
func (p *Packer) Text(s string) {
	if len(s) > maxText {
		p.put(nil, api.ErrLong)
		return
	}
	p.put(append(lay(nil, textHead, uint64(len(s))), s...), api.OK)
}

// Fill puts bytes 0, till all are n.
func (p *Packer) Fill(n int) {
	// An n that can't be goes first: with it there is nothing to hold the bytes that are there against.
	switch {
	case n < 0 || n > maxText:
		p.put(nil, api.ErrArg)
	case n < p.Len():
		p.put(nil, api.ErrLong)
	default:
		p.put(make([]byte, n-p.Len()), api.OK)
	}
}

// Len tells how many bytes there are.
func (p *Packer) Len() int {
	if p == nil {
		return 0
	}
	return p.at
}

// Done tells the first error; else the bytes.
func (p *Packer) Done() (string, api.Errno) {
	if p == nil {
		return "", api.ErrArg
	}
	if p.stopped() {
		return "", p.bad
	}
	all := make([]byte, p.at)
	end := p.at
	for x := p.last; x != nil; x = x.before {
		end -= len(x.bytes)
		copy(all[end:], x.bytes)
	}
	return string(all), api.OK
}

// Unpacker reads things from the front on. A zero one has no bytes.
type Unpacker struct {
	progress
	bytes string
}

// From makes an Unpacker of the bytes b.
func From(b string) *Unpacker { return &Unpacker{bytes: b} }

// take reads n bytes, or none of them.
func (u *Unpacker) take(n int) string {
	if u == nil || u.stopped() {
		return ""
	}
	if n > u.Left() {
		u.stop(api.ErrShort)
		return ""
	}
	b := u.bytes[u.at : u.at+n]
	u.pass(n)
	return b
}

// Int reads an int.
func (u *Unpacker) Int() int { return int(u.Word()) }

// Small reads a number of size bytes.
func (u *Unpacker) Small(size int) int {
	if u == nil {
		return 0
	}
	if !isSmall(size) {
		u.stop(api.ErrArg)
		return 0
	}
	return int(value(u.take(size)))
}

// Word reads a number without a sign.
func (u *Unpacker) Word() uint64 { return value(u.take(wordSize)) }

// Name reads a name. Its form is looked at when all of it was read, and not ahead of that.
func (u *Unpacker) Name() string {
	b := u.take(nameSize)
	if b == "" {
		return ""
	}
	end := 1 + int(b[0])
	if end > nameSize || strings.Trim(b[end:], "\x00") != "" {
		u.stop(api.ErrForm)
		return ""
	}
	return strings.Clone(b[1:end])
}

// Text reads a text.
func (u *Unpacker) Text() string {
	if u == nil {
		return ""
	}
	start := u.at
	s := u.take(u.Small(textHead))
	if u.stopped() {
		u.at = start // a text that is not there whole leaves its length unread too
	}
	return strings.Clone(s)
}

// Bad tells the first error.
func (u *Unpacker) Bad() api.Errno {
	if u == nil {
		return api.ErrArg
	}
	return u.bad
}

// Left tells how many bytes are left.
func (u *Unpacker) Left() int {
	if u == nil {
		return 0
	}
	return len(u.bytes) - u.at
}

// Rest tells the bytes that are left, and none are left behind it, whatever error there is.
func (u *Unpacker) Rest() string {
	if u == nil {
		return ""
	}
	b := u.bytes[u.at:]
	u.pass(len(b))
	return strings.Clone(b)
}

// Digits tells v in decimal digits.
func Digits(v int) string { return strconv.Itoa(v) }

// Number tells the int that s has in at most 18 decimal digits.
func Number(s string) (int, api.Errno) {
	v, err := strconv.Atoi(s)
	// Atoi takes a plus, zeros ahead and -0 too, but none of these is what Digits tells.
	if err != nil || v <= -tooGreat || v >= tooGreat || Digits(v) != s {
		return 0, api.ErrArg
	}
	return v, api.OK
}

// isSmall tells whether a small number may have size bytes.
func isSmall(size int) bool { return size >= 1 && size <= maxSmall }

// lay puts the lowest size bytes of v behind b, the lowest first.
func lay(b []byte, size int, v uint64) []byte {
	for range size {
		b = append(b, byte(v))
		v >>= 8
	}
	return b
}

// value is the number that b has, the lowest byte first; 0 of no bytes.
func value(b string) uint64 {
	v := uint64(0)
	for i := len(b) - 1; i >= 0; i-- {
		v = v<<8 | uint64(b[i])
	}
	return v
}
