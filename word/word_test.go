package word_test

import (
	"regexp"
	"slices"
	"strconv"
	"strings"
	"testing"
	"unsafe"

	"sediment/api"
	"sediment/word"
)

// want holds an answer against what is wanted.
func want[T comparable](t *testing.T, what string, got, wanted T) {
	t.Helper()
	if got != wanted {
		t.Errorf("%s: %v, not %v", what, got, wanted)
	}
}

// of tells a text, for a failure's text.
func of(s string) string {
	if len(s) > 60 {
		return "of a text of " + strconv.Itoa(len(s)) + " bytes"
	}
	return "of " + strconv.Quote(s)
}

// at is a word and its place.
func at(line, col int, text string) word.Word { return word.Word{Text: text, Line: line, Col: col} }

// cut cuts a text that is to be a good one.
func cut(t *testing.T, text string) *word.Words {
	t.Helper()
	w, e, line := word.Cut(text)
	want(t, "Cut "+of(text)+": the error", e, api.OK)
	want(t, "Cut "+of(text)+": the line", line, 0)
	if w == nil {
		t.Fatalf("Cut %s: no Words", of(text))
	}
	return w
}

// take takes all words, one by one.
func take(w *word.Words) []word.Word {
	var l []word.Word
	for x, is := w.Next(); is; x, is = w.Next() {
		l = append(l, x)
	}
	return l
}

// wantList holds words against what is wanted.
func wantList(t *testing.T, what string, got []word.Word, wanted ...word.Word) {
	t.Helper()
	if !slices.Equal(got, wanted) {
		t.Errorf("%s: %v, not %v", what, got, wanted)
	}
}

// wantCut holds the words of a good text against what is wanted.
func wantCut(t *testing.T, text string, wanted ...word.Word) {
	t.Helper()
	w := cut(t, text)
	want(t, "Len "+of(text), w.Len(), len(wanted))
	wantList(t, "the words "+of(text), take(w), wanted...)
	want(t, "Len at the end "+of(text), w.Len(), 0)
}

// wantNoCut holds what Cut tells of a wrong text against what is wanted.
func wantNoCut(t *testing.T, text string, wanted api.Errno, line int) {
	t.Helper()
	w, e, l := word.Cut(text)
	want(t, "Cut "+of(text)+": the error", e, wanted)
	want(t, "Cut "+of(text)+": the line", l, line)
	want(t, "Cut "+of(text)+": the Words", w, nil)
}

// model tells what Cut is to tell of a text, by patterns, line by line.
func model(text string) ([]word.Word, api.Errno, int) {
	if len(text) > 4000 {
		return nil, api.ErrLong, 0
	}
	if loc := regexp.MustCompile(`[^ \t\n!-~]`).FindStringIndex(text); loc != nil {
		return nil, api.ErrPolicy, 1 + strings.Count(text[:loc[0]], "\n")
	}
	var l []word.Word
	runs := regexp.MustCompile(`[!-~]+`)
	for i, line := range strings.Split(text, "\n") {
		for _, loc := range runs.FindAllStringIndex(line, -1) {
			if line[loc[0]] == '#' {
				break
			}
			l = append(l, at(i+1, loc[0]+1, line[loc[0]:loc[1]]))
		}
	}
	return l, api.OK, 0
}

// wantModel holds Cut and Is of a text against the model.
func wantModel(t *testing.T, text string) {
	t.Helper()
	l, e, line := model(text)
	if e != api.OK {
		wantNoCut(t, text, e, line)
	} else {
		wantCut(t, text, l...)
	}
	want(t, "Is "+of(text), word.Is(text), len(l) == 1 && l[0].Text == text)
}

// everyText calls do with each text of up to n bytes of letters.
func everyText(letters string, n int, do func(text string)) {
	texts := []string{""}
	for len(texts) > 0 {
		text := texts[len(texts)-1]
		texts = texts[:len(texts)-1]
		do(text)
		if len(text) < n {
			for i := range len(letters) {
				texts = append(texts, text+letters[i:i+1])
			}
		}
	}
}

// samples are good texts of all kinds.
func samples() []string {
	return []string{
		"a b # c\n d",
		"a b c\n\nd # e\nf",
		"",
		"\n",
		" \t\n#",
		"one",
		"\n\n\none two\n",
		"policy web\ntier raw every 1 keep 100 shards 2\ntier tens every 10 keep 1000 shards 1\n",
		"# head\npolicy x # tail\n#\n\n\ttier a\tb  c# d #e\n\n#z",
		"a\nb\nc\nd",
	}
}

func TestP701Cut(t *testing.T) {
	wantCut(t, "a b # c\n d", at(1, 1, "a"), at(1, 3, "b"), at(2, 2, "d"))
	wantCut(t, "a", at(1, 1, "a"))
	wantCut(t, "ab", at(1, 1, "ab"))
	wantCut(t, "policy web\ntier raw every 1\n", at(1, 1, "policy"), at(1, 8, "web"), at(2, 1, "tier"), at(2, 6, "raw"), at(2, 10, "every"), at(2, 16, "1"))
	wantCut(t, "\n\n  a \n\n b", at(3, 3, "a"), at(5, 2, "b"))
	for _, text := range []string{"", " ", "\t", "\n", "\n\n\n", " \n\t\n ", "#", "# a", "#a", "##", " #", "\n#\n #a b\n", "#!~"} {
		wantCut(t, text)
	}
}

func TestP701BlanksAndTabs(t *testing.T) {
	wantCut(t, "a\tb", at(1, 1, "a"), at(1, 3, "b"))
	wantCut(t, "\ta", at(1, 2, "a")) // a tab is a byte, and so a column
	wantCut(t, " \t \ta \tb\t \t", at(1, 5, "a"), at(1, 8, "b"))
	wantCut(t, "a \n\t b ", at(1, 1, "a"), at(2, 3, "b"))
}

func TestP701Remarks(t *testing.T) {
	wantCut(t, "a#", at(1, 1, "a#"))
	wantCut(t, "a#b#c", at(1, 1, "a#b#c")) // only one that begins a word begins a remark
	wantCut(t, "a #b c\nd", at(1, 1, "a"), at(2, 1, "d"))
	wantCut(t, "a\t# b # c\n\td", at(1, 1, "a"), at(2, 2, "d"))
	wantCut(t, "#a\n#b\nc", at(3, 1, "c"))
	wantCut(t, "#\na", at(2, 1, "a"))
	wantCut(t, "##\n a# # b", at(2, 2, "a#"))
	wantCut(t, "a #", at(1, 1, "a"))
	wantCut(t, "a # b", at(1, 1, "a"))
}

func TestP701EveryByte(t *testing.T) {
	for i := range 256 {
		c := string([]byte{byte(i)})
		switch {
		case c == "\n":
			wantCut(t, c)
			wantCut(t, "a"+c+"b", at(1, 1, "a"), at(2, 1, "b"))
			wantCut(t, "# "+c+"b", at(2, 1, "b"))
		case c == " " || c == "\t":
			wantCut(t, c)
			wantCut(t, "a"+c+"b", at(1, 1, "a"), at(1, 3, "b"))
			wantCut(t, "# "+c+"b")
		case c == "#":
			wantCut(t, c)
			wantCut(t, "a"+c+"b", at(1, 1, "a#b"))
			wantCut(t, "# "+c+"b")
		case i >= 33 && i <= 126:
			wantCut(t, c, at(1, 1, c))
			wantCut(t, "a"+c+"b", at(1, 1, "a"+c+"b"))
			wantCut(t, "# "+c+"b")
		default:
			for _, text := range []string{c, "a" + c + "b", c + "a", " " + c, "# " + c, "#" + c, "a #b" + c + "\n", "#" + c + "\n" + c} {
				wantNoCut(t, text, api.ErrPolicy, 1)
				wantNoCut(t, "\n"+text, api.ErrPolicy, 2)
				wantNoCut(t, "a # b\n\n c\n"+text, api.ErrPolicy, 4)
				wantNoCut(t, "# a\n"+text+"\n\x00\n\xff", api.ErrPolicy, 2) // the first one counts
			}
		}
	}
}

func TestP701WrongBytesOfOtherKinds(t *testing.T) {
	wantNoCut(t, "a\r\nb", api.ErrPolicy, 1)
	wantNoCut(t, "a\n\rb", api.ErrPolicy, 2)
	wantNoCut(t, "a\vb\fc", api.ErrPolicy, 1)
	wantNoCut(t, "a\n# \u00e9", api.ErrPolicy, 2)
	wantNoCut(t, "\u00a0a", api.ErrPolicy, 1)
	wantNoCut(t, "a\n\n\u2028b", api.ErrPolicy, 3) // another kind of line end
	wantNoCut(t, strings.Repeat("\n", 3999)+"\x7f", api.ErrPolicy, 4000)
}

func TestP701HowLong(t *testing.T) {
	for _, s := range []string{"a", " ", "\n", "#", "a ", "a\n", "#\n", "ab #c\n\td "} {
		text := strings.Repeat(s, 4001/len(s)+1)
		for n := 3990; n <= 4000; n++ {
			wantModel(t, text[:n])
		}
		wantNoCut(t, text[:4001], api.ErrLong, 0)
	}
	wantCut(t, strings.Repeat("a", 4000), at(1, 1, strings.Repeat("a", 4000)))
	wantCut(t, strings.Repeat("\n", 3999)+"z", at(4000, 1, "z"))
	wantCut(t, strings.Repeat(" ", 3999)+"z", at(1, 4000, "z"))
	for _, n := range []int{4001, 4002, 4096, 8000, 65536, 65537, 1 << 20} {
		for _, s := range []string{"a", " ", "\n", "#", "\x00", "\xff"} { // too long goes first, whatever the bytes
			wantNoCut(t, strings.Repeat(s, n), api.ErrLong, 0)
		}
	}
	wantNoCut(t, strings.Repeat("\u00e9", 2001), api.ErrLong, 0) // it is bytes that are counted
	wantNoCut(t, strings.Repeat("\u00e9", 2000), api.ErrPolicy, 1)
}

func TestP701EveryShortText(t *testing.T) {
	everyText("a#~ \t\n\r", 5, func(text string) { wantModel(t, text) })
	everyText("a# \n", 7, func(text string) { wantModel(t, text) })
}

func TestP701LongTexts(t *testing.T) {
	x := uint32(1)
	for n := range 400 {
		var b []byte
		for len(b) < n*10 {
			x = x*1664525 + 1013904223
			b = append(b, "abz!~#09   \t\t\n\n."[x>>28])
		}
		wantModel(t, string(b))
		if n%4 == 3 {
			b[int(x>>8)%len(b)] = byte(128 + n%128)
			wantModel(t, string(b))
		}
	}
}

func TestP701AnswersAreTheirOwn(t *testing.T) {
	b := []byte("one two # three\nfour")
	text := unsafe.String(&b[0], len(b)) // a text whose bytes are turned below, to see whether it is kept
	w := cut(t, text)
	copy(b, "ONE\nTWO\n\n\n\n\n\n\n\n\n\n\nFOUR")
	want(t, "Len", w.Len(), 3)
	wantList(t, "the words", take(w), at(1, 1, "one"), at(1, 5, "two"), at(2, 1, "four"))
}

// wantApart looks whether two words have bytes of their own.
func wantApart(t *testing.T, what string, a, b word.Word) {
	t.Helper()
	if unsafe.StringData(a.Text) == unsafe.StringData(b.Text) {
		t.Errorf("%s: they share their bytes", what)
	}
}

func TestP702AnswersAreTheirOwn(t *testing.T) {
	text := strings.Repeat("word ", 3)
	w, again := cut(t, text), cut(t, text)
	one, _ := w.Peek()
	two, _ := w.Peek()
	three, _ := w.Next()
	four := again.Line()
	wantList(t, "they are alike", []word.Word{one, two, three}, four[0], four[0], four[0])
	wantApart(t, "Peek and Peek", one, two)
	wantApart(t, "Peek and Next", two, three)
	wantApart(t, "of two Words", three, four[0])
	four[0].Text, four[1].Line = "other", 9 // a list that was told is not asked again
	wantList(t, "what is left", w.Line(), at(1, 6, "word"), at(1, 11, "word"))
	wantList(t, "of the other one", again.Line())
}

func TestP702NextAndPeek(t *testing.T) {
	w := cut(t, "a b # c\n d")
	for i, x := range []word.Word{at(1, 1, "a"), at(1, 3, "b"), at(2, 2, "d")} {
		for range 3 {
			got, is := w.Peek()
			want(t, "Peek", got, x)
			want(t, "is there one", is, true)
			want(t, "Len", w.Len(), 3-i)
		}
		got, is := w.Next()
		want(t, "Next", got, x)
		want(t, "is there one", is, true)
		want(t, "Len behind it", w.Len(), 2-i)
	}
	for range 3 {
		got, is := w.Next()
		want(t, "Next at the end", got, word.Word{})
		want(t, "is there one", is, false)
		got, is = w.Peek()
		want(t, "Peek at the end", got, word.Word{})
		want(t, "is there one", is, false)
		wantList(t, "Line at the end", w.Line())
		want(t, "Len at the end", w.Len(), 0)
	}
}

func TestP702Line(t *testing.T) {
	w := cut(t, "a b c\n\nd # e\nf")
	w.Next()
	wantList(t, "what is left of the first line", w.Line(), at(1, 3, "b"), at(1, 5, "c"))
	want(t, "Len", w.Len(), 2)
	wantList(t, "the next line that has words", w.Line(), at(3, 1, "d"))
	wantList(t, "the last line", w.Line(), at(4, 1, "f"))
	wantList(t, "none", w.Line())
	want(t, "Len at the end", w.Len(), 0)

	w = cut(t, "\n# x\n  a\tb\n\n\n c#")
	wantList(t, "a line behind others", w.Line(), at(3, 3, "a"), at(3, 5, "b"))
	x, is := w.Peek()
	want(t, "Peek behind it", x, at(6, 2, "c#"))
	want(t, "is there one", is, true)
	w.Next()
	wantList(t, "none", w.Line())

	// A line whose words were all taken has none left: it is the one behind it that is told.
	w = cut(t, "a\nb c")
	w.Next()
	wantList(t, "the line behind the one that was taken", w.Line(), at(2, 1, "b"), at(2, 3, "c"))
}

func TestP702TheReadme(t *testing.T) {
	w := cut(t, "tier raw # fine\nevery 1\n")
	x, is := w.Next()
	want(t, "Next", x, at(1, 1, "tier"))
	want(t, "is there one", is, true)
	x, is = w.Peek()
	want(t, "Peek", x, at(1, 6, "raw"))
	want(t, "is there one", is, true)
	wantList(t, "Line", w.Line(), at(1, 6, "raw"))
	want(t, "Len", w.Len(), 2)
}

// queue is a plain model of Words: a list of those that are left.
type queue struct{ left []word.Word }

// line takes the words of the first one's line.
func (q *queue) line() []word.Word {
	n := 0
	for n < len(q.left) && q.left[n].Line == q.left[0].Line {
		n++
	}
	l := q.left[:n]
	q.left = q.left[n:]
	return l
}

// first tells the first word, and takes n of it.
func (q *queue) first(n int) (word.Word, bool) {
	if len(q.left) == 0 {
		return word.Word{}, false
	}
	x := q.left[0]
	q.left = q.left[n:]
	return x, true
}

// wantCalls puts calls (n: Next, p: Peek, l: Line, c: Len) to the Words of a text, and to the model.
func wantCalls(t *testing.T, text, calls string) {
	t.Helper()
	w := cut(t, text)
	l, _, _ := model(text)
	q := &queue{l}
	for i, c := range calls {
		what := "behind the calls " + calls[:i+1] + " " + of(text)
		switch c {
		case 'n':
			got, is := w.Next()
			x, wanted := q.first(1)
			want(t, what, got, x)
			want(t, what, is, wanted)
		case 'p':
			got, is := w.Peek()
			x, wanted := q.first(0)
			want(t, what, got, x)
			want(t, what, is, wanted)
		case 'l':
			wantList(t, what, w.Line(), q.line()...)
		case 'c':
			want(t, what, w.Len(), len(q.left))
		}
	}
	want(t, "at last "+of(text), w.Len(), len(q.left))
	wantList(t, "what is left behind the calls "+calls+" "+of(text), take(w), q.left...)
}

func TestP702CallsInAnyOrder(t *testing.T) {
	for _, text := range samples() {
		everyText("nplc", 5, func(calls string) { wantCalls(t, text, calls) })
	}
}

func TestP702CopiesAreApart(t *testing.T) {
	for _, text := range samples() {
		l, _, _ := model(text)
		w := cut(t, text)
		for i := range l {
			one, two := *w, *w
			take(&one)
			want(t, "Len of the one that was taken from "+of(text), one.Len(), 0)
			two.Line()
			wantList(t, "the copied one "+of(text), take(func() *word.Words { x := *w; return &x }()), l[i:]...)
			w.Next()
		}
		want(t, "Len "+of(text), w.Len(), 0)
	}
}

func TestP702Is(t *testing.T) {
	for i := range 256 {
		c := string([]byte{byte(i)})
		in := i >= 33 && i <= 126
		want(t, "Is "+of(c), word.Is(c), in && c != "#")
		want(t, "Is "+of(c+"a"), word.Is(c+"a"), in && c != "#")
		want(t, "Is "+of("a"+c), word.Is("a"+c), in)
		want(t, "Is "+of("a"+c+"b"), word.Is("a"+c+"b"), in)
		want(t, "Is "+of("a#"+c), word.Is("a#"+c), in)
		want(t, "Is "+of("#"+c), word.Is("#"+c), false)
	}
	for _, s := range []string{"", " ", "a b", " a", "a ", "a\n", "\na", "a\tb", "#", "##", "#a", "a #", "a #b", "\u00e9", "a\u00e9"} {
		want(t, "Is "+of(s), word.Is(s), false)
	}
	for _, s := range []string{"a", "policy", "1", "-1", "a#", "a#b", "!", "~", "tier,raw/x"} {
		want(t, "Is "+of(s), word.Is(s), true)
	}
	want(t, "Is of the longest", word.Is(strings.Repeat("x", 4000)), true)
	for _, n := range []int{4001, 4002, 8000, 1 << 20} {
		want(t, "Is of one too long", word.Is(strings.Repeat("x", n)), false)
	}
}

func TestP703NilAndZero(t *testing.T) {
	var none *word.Words
	var zero word.Words
	for what, w := range map[string]*word.Words{"nil": none, "zero": &zero} {
		for range 2 {
			x, is := w.Next()
			want(t, what+": Next", x, word.Word{})
			want(t, what+": Next: is there one", is, false)
			x, is = w.Peek()
			want(t, what+": Peek", x, word.Word{})
			want(t, what+": Peek: is there one", is, false)
			wantList(t, what+": Line", w.Line())
			want(t, what+": Len", w.Len(), 0)
		}
	}
}
