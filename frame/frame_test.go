package frame

import (
	"bytes"
	"math"
	"slices"
	"strconv"
	"strings"
	"testing"

	"franking/api"
)

// many answers so many bytes, all the same.
func many(c byte, n int) string { return strings.Repeat(string(rune(c)), n) }

// lines answers lines that are not too long.
func lines(texts ...string) []api.Line {
	l := make([]api.Line, len(texts))
	for i, s := range texts {
		l[i].Text = s
	}
	return l
}

// long answers a line that was too long.
func long(s string) api.Line { return api.Line{Text: s, Long: true} }

// short answers the beginning of a text that is long, in quotes.
func short(s string) string {
	if len(s) > 200 {
		return strconv.Quote(s[:200]) + " and so on, " + strconv.Itoa(len(s)) + " in all"
	}
	return strconv.Quote(s)
}

// shown answers a frame as a text.
func shown(f api.Frame) string {
	out := "most " + strconv.Itoa(f.Most) + " held " + short(f.Held)
	if f.Over {
		out += " over"
	}
	if f.Cr {
		out += " cr"
	}
	return out
}

// shownLines answers lines as a text.
func shownLines(l []api.Line) string {
	out := strconv.Itoa(len(l)) + " lines:"
	for i, x := range l {
		if i > 50 {
			return out + " and so on"
		}
		out += " " + short(x.Text)
		if x.Long {
			out += " long"
		}
	}
	return out
}

// empty answers a frame to which nothing came.
func empty(t testing.TB, most int) api.Frame {
	t.Helper()
	f, err := New(most)
	if err != api.OK || f != (api.Frame{Most: most}) {
		t.Fatalf("New(%d): %d, %s", most, err, shown(f))
	}
	return f
}

// wantPush holds what a frame becomes by a piece, which lines that tells, and what Rest tells then; it answers the frame.
func wantPush(t testing.TB, f api.Frame, piece string, told []api.Line, left api.Frame, rest string) api.Frame {
	t.Helper()
	g, l := Push(f, []byte(piece))
	if g != left || !slices.Equal(l, told) {
		t.Errorf("%s by %s: %s, %s; want %s, %s", shown(f), short(piece), shown(g), shownLines(l), shown(left), shownLines(told))
	}
	if s := Rest(g); s != rest {
		t.Errorf("%s: Rest tells %s, want %s", shown(g), short(s), short(rest))
	}
	return g
}

// step is a piece that comes to a frame, and what is there then.
type step struct {
	piece string
	told  []api.Line
	left  api.Frame // without Most
	rest  string
}

// wantSteps holds what a frame tells of pieces that come one behind the other.
func wantSteps(t testing.TB, most int, steps ...step) {
	t.Helper()
	f := empty(t, most)
	for _, s := range steps {
		s.left.Most = most
		f = wantPush(t, f, s.piece, s.told, s.left, s.rest)
	}
}

func TestExamples(t *testing.T) {
	wantSteps(t, 4,
		step{"ab\r\ncdefgh\r", lines("ab"), api.Frame{Held: "cdef", Over: true, Cr: true}, "cdef\r"},
		step{"\n", []api.Line{long("cdef")}, api.Frame{}, ""},
		step{"\r\r\n", lines("\r"), api.Frame{}, ""},
	)
	for _, most := range []int{0, 2001} {
		if f, err := New(most); err != api.ErrArg || f != (api.Frame{}) {
			t.Errorf("New(%d): %d, %s", most, err, shown(f))
		}
	}
}

func TestNew(t *testing.T) {
	for _, most := range []int{0, -1, -2, -2000, -2001, 2001, 2002, 4000, 1 << 32, 1<<32 + 1, -1<<32 + 1, math.MaxInt, math.MinInt, math.MinInt + 1} {
		if f, err := New(most); err != api.ErrArg || f != (api.Frame{}) {
			t.Errorf("New(%d): %d, %s", most, err, shown(f))
		}
	}
	for most := 1; most <= 2000; most++ {
		f := empty(t, most)
		if s := Rest(f); s != "" {
			t.Errorf("New(%d): Rest tells %s", most, short(s))
		}
	}
}

func TestPush(t *testing.T) {
	for name, c := range map[string]struct {
		most  int
		steps []step
	}{
		"no bytes": {9, []step{
			{"", nil, api.Frame{}, ""},
			{"", nil, api.Frame{}, ""},
			{"ab", nil, api.Frame{Held: "ab"}, "ab"},
			{"", nil, api.Frame{Held: "ab"}, "ab"},
			{"\r", nil, api.Frame{Held: "ab", Cr: true}, "ab\r"},
			{"", nil, api.Frame{Held: "ab", Cr: true}, "ab\r"},
			{"\n", lines("ab"), api.Frame{}, ""},
		}},
		"a line in one piece":  {9, []step{{"abc\r\n", lines("abc"), api.Frame{}, ""}}},
		"a line behind a line": {9, []step{{"abc\r\n", lines("abc"), api.Frame{}, ""}, {"d\r\n", lines("d"), api.Frame{}, ""}}},
		"an empty line":        {9, []step{{"\r\n", lines(""), api.Frame{}, ""}}},
		"empty lines":          {1, []step{{"\r\n\r\n\r\n", lines("", "", ""), api.Frame{}, ""}}},
		"several lines":        {9, []step{{"a\r\n\r\nbc\r\nd", lines("a", "", "bc"), api.Frame{Held: "d"}, "d"}}},
		"a 13 that ends a piece, and a 10": {9, []step{
			{"ab\r", nil, api.Frame{Held: "ab", Cr: true}, "ab\r"},
			{"\ncd", lines("ab"), api.Frame{Held: "cd"}, "cd"},
		}},
		"a 13 that ends a piece, and a 13": {9, []step{
			{"ab\r", nil, api.Frame{Held: "ab", Cr: true}, "ab\r"},
			{"\r", nil, api.Frame{Held: "ab\r", Cr: true}, "ab\r\r"},
			{"\rc", nil, api.Frame{Held: "ab\r\r\rc"}, "ab\r\r\rc"},
			{"\r\r", nil, api.Frame{Held: "ab\r\r\rc\r", Cr: true}, "ab\r\r\rc\r\r"},
			{"\n", lines("ab\r\r\rc\r"), api.Frame{}, ""},
		}},
		"a 13 that ends a piece, and another byte": {9, []step{
			{"ab\r", nil, api.Frame{Held: "ab", Cr: true}, "ab\r"},
			{"c", nil, api.Frame{Held: "ab\rc"}, "ab\rc"},
			{"\n", nil, api.Frame{Held: "ab\rc\n"}, "ab\rc\n"},
		}},
		"a 13 that ends a piece, and no bytes": {9, []step{
			{"\r", nil, api.Frame{Cr: true}, "\r"},
			{"", nil, api.Frame{Cr: true}, "\r"},
			{"", nil, api.Frame{Cr: true}, "\r"},
			{"\n", lines(""), api.Frame{}, ""},
		}},
		"13s without a 10":        {9, []step{{"\r\r\r\r", nil, api.Frame{Held: "\r\r\r", Cr: true}, "\r\r\r\r"}}},
		"13s without a 10, and a": {9, []step{{"\r\r\ra", nil, api.Frame{Held: "\r\r\ra"}, "\r\r\ra"}}},
		"13s with a 10":           {9, []step{{"\r\r\r\r\n", lines("\r\r\r"), api.Frame{}, ""}}},
		"a 10 alone": {9, []step{
			{"\n", nil, api.Frame{Held: "\n"}, "\n"},
			{"\n\n", nil, api.Frame{Held: "\n\n\n"}, "\n\n\n"},
			{"\r\n", lines("\n\n\n"), api.Frame{}, ""},
			{"a\nb\r\n", lines("a\nb"), api.Frame{}, ""},
		}},
		"a 10 behind a line's end": {9, []step{{"a\r\n\n\r\n", lines("a", "\n"), api.Frame{}, ""}}},
		"a 13 behind a line's end": {9, []step{{"a\r\n\r\r\n", lines("a", "\r"), api.Frame{}, ""}}},
		"a 10 ahead of a 13":       {9, []step{{"\n\r", nil, api.Frame{Held: "\n", Cr: true}, "\n\r"}, {"\n\r", lines("\n"), api.Frame{Cr: true}, "\r"}}},
		"no text is special":       {20, []step{{".\r\n\x00\xff\xc3\r\n\xe2\x82\xac\r\n", lines(".", "\x00\xff\xc3", "\xe2\x82\xac"), api.Frame{}, ""}}},
	} {
		t.Run(name, func(t *testing.T) { wantSteps(t, c.most, c.steps...) })
	}
}

func TestTooLong(t *testing.T) {
	for name, c := range map[string]struct {
		most  int
		steps []step
	}{
		"one less":  {3, []step{{"ab", nil, api.Frame{Held: "ab"}, "ab"}, {"\r\n", lines("ab"), api.Frame{}, ""}}},
		"as many":   {3, []step{{"abc", nil, api.Frame{Held: "abc"}, "abc"}, {"\r\n", lines("abc"), api.Frame{}, ""}}},
		"one more":  {3, []step{{"abcd", nil, api.Frame{Held: "abc", Over: true}, "abc"}, {"\r\n", []api.Line{long("abc")}, api.Frame{}, ""}}},
		"many more": {3, []step{{"abc" + many('x', 5000), nil, api.Frame{Held: "abc", Over: true}, "abc"}, {"\r\n", []api.Line{long("abc")}, api.Frame{}, ""}}},
		"the next line is not": {3, []step{
			{"abcd\r\nab\r\nabc\r\nabcd\r\n\r\n", []api.Line{long("abc"), {Text: "ab"}, {Text: "abc"}, long("abc"), {}}, api.Frame{}, ""},
		}},
		"pieces end within, and behind": {3, []step{
			{"abc", nil, api.Frame{Held: "abc"}, "abc"},
			{"d", nil, api.Frame{Held: "abc", Over: true}, "abc"},
			{"e", nil, api.Frame{Held: "abc", Over: true}, "abc"},
			{"\r", nil, api.Frame{Held: "abc", Over: true, Cr: true}, "abc\r"},
			{"\n", []api.Line{long("abc")}, api.Frame{}, ""},
			{"f", nil, api.Frame{Held: "f"}, "f"},
		}},
		"a 13 that waits is none of them yet": {3, []step{
			{"abc\r", nil, api.Frame{Held: "abc", Cr: true}, "abc\r"},
			{"\n", lines("abc"), api.Frame{}, ""},
		}},
		"a 13 as the last byte that may be kept": {3, []step{
			{"ab\r", nil, api.Frame{Held: "ab", Cr: true}, "ab\r"},
			{"\r", nil, api.Frame{Held: "ab\r", Cr: true}, "ab\r\r"},
			{"\n", lines("ab\r"), api.Frame{}, ""},
			{"ab\rc", nil, api.Frame{Held: "ab\r", Over: true}, "ab\r"},
			{"\r\n", []api.Line{long("ab\r")}, api.Frame{}, ""},
		}},
		"a 13 as the first byte that may not": {3, []step{
			{"abc\r", nil, api.Frame{Held: "abc", Cr: true}, "abc\r"},
			{"\r", nil, api.Frame{Held: "abc", Over: true, Cr: true}, "abc\r"},
			{"\n", []api.Line{long("abc")}, api.Frame{}, ""},
			{"abc\r", nil, api.Frame{Held: "abc", Cr: true}, "abc\r"},
			{"d", nil, api.Frame{Held: "abc", Over: true}, "abc"},
			{"\r\n", []api.Line{long("abc")}, api.Frame{}, ""},
		}},
		"a 10 as the last byte that may be kept": {3, []step{{"ab\n", nil, api.Frame{Held: "ab\n"}, "ab\n"}, {"\r\n", lines("ab\n"), api.Frame{}, ""}}},
		"a 10 as the first byte that may not":    {3, []step{{"abc\n", nil, api.Frame{Held: "abc", Over: true}, "abc"}, {"\r\n", []api.Line{long("abc")}, api.Frame{}, ""}}},
		"13s alone": {1, []step{
			{"\r", nil, api.Frame{Cr: true}, "\r"},
			{"\r", nil, api.Frame{Held: "\r", Cr: true}, "\r\r"},
			{"\r", nil, api.Frame{Held: "\r", Over: true, Cr: true}, "\r\r"},
			{"\n", []api.Line{long("\r")}, api.Frame{}, ""},
		}},
		"one byte may be kept": {1, []step{{"a\r\nbc\r\n\r\n", []api.Line{{Text: "a"}, long("b"), {}}, api.Frame{}, ""}}},
	} {
		t.Run(name, func(t *testing.T) { wantSteps(t, c.most, c.steps...) })
	}
}

// TestMosts takes lines about as long as may be through frames of each most.
func TestMosts(t *testing.T) {
	for most := 1; most <= 2000; most++ {
		if most > 20 && most < 1980 && most%97 > 0 {
			continue
		}
		wantSteps(t, most,
			step{many('a', most-1), nil, api.Frame{Held: many('a', most-1)}, many('a', most-1)},
			step{"\r\n" + many('b', most), lines(many('a', most-1)), api.Frame{Held: many('b', most)}, many('b', most)},
			step{"\r\n" + many('c', most+1), lines(many('b', most)), api.Frame{Held: many('c', most), Over: true}, many('c', most)},
			step{"\r\n" + many('d', most-1) + "\r", []api.Line{long(many('c', most))}, api.Frame{Held: many('d', most-1), Cr: true}, many('d', most-1) + "\r"},
			step{"\r\n" + many('e', most) + "\r", lines(many('d', most-1) + "\r"), api.Frame{Held: many('e', most), Cr: true}, many('e', most) + "\r"},
			step{"f\r", nil, api.Frame{Held: many('e', most), Over: true, Cr: true}, many('e', most) + "\r"},
			step{"\n", []api.Line{long(many('e', most))}, api.Frame{}, ""},
		)
	}
}

func TestAllBytes(t *testing.T) {
	f := empty(t, 1)
	for c := range 256 {
		if c == cr {
			f = wantPush(t, f, "\r", nil, api.Frame{Most: 1, Cr: true}, "\r")
			f = wantPush(t, f, "\r\n", lines("\r"), api.Frame{Most: 1}, "")
			continue
		}
		s := string([]byte{byte(c)})
		f = wantPush(t, f, s, nil, api.Frame{Most: 1, Held: s}, s)
		f = wantPush(t, f, "\r\n", lines(s), api.Frame{Most: 1}, "")
		if c != lf {
			f = wantPush(t, f, "\r"+s, nil, api.Frame{Most: 1, Held: "\r", Over: true}, "\r")
			f = wantPush(t, f, "\r\n", []api.Line{long("\r")}, api.Frame{Most: 1}, "")
		}
	}
	var all []byte
	for c := range 256 {
		all = append(all, byte(c))
	}
	wantSteps(t, 300, step{string(all), nil, api.Frame{Held: string(all)}, string(all)}, step{"\r\n", lines(string(all)), api.Frame{}, ""})
}

// TestStay holds that what was told earlier stays as it was, whatever comes to it later, and whatever becomes of the piece.
func TestStay(t *testing.T) {
	first, _ := Push(empty(t, 6), []byte("abc"))
	piece := []byte("de\r\nfg\r\nhi\r")
	second, told := Push(first, piece)
	for i := range piece {
		piece[i] = '!'
	}
	wantPush(t, second, "\nxyzxyzxyz", lines("hi"), api.Frame{Most: 6, Held: "xyzxyz", Over: true}, "xyzxyz")
	wantPush(t, second, "jklm", nil, api.Frame{Most: 6, Held: "hi\rjkl", Over: true}, "hi\rjkl")
	wantPush(t, first, "\r\n", lines("abc"), api.Frame{Most: 6}, "")
	wantPush(t, first, "de", nil, api.Frame{Most: 6, Held: "abcde"}, "abcde")
	if want := (api.Frame{Most: 6, Held: "abc"}); first != want {
		t.Errorf("%s, want %s", shown(first), shown(want))
	}
	if want := (api.Frame{Most: 6, Held: "hi", Cr: true}); second != want {
		t.Errorf("%s, want %s", shown(second), shown(want))
	}
	if want := lines("abcde", "fg"); !slices.Equal(told, want) {
		t.Errorf("%s, want %s", shownLines(told), shownLines(want))
	}
}

// TestHandedIn holds that neither the piece nor its spare room is changed, and that lists of lines are none of one another.
func TestHandedIn(t *testing.T) {
	room := []byte("ab\r\ncd\r\n----------")
	f, told := Push(empty(t, 4), room[:8])
	if string(room) != "ab\r\ncd\r\n----------" {
		t.Errorf("the piece is %q now", room)
	}
	other, again := Push(f, []byte("ef\r\n"))
	told = append(told[:1], long("!"))
	again = append(again, long("?"))
	if want := lines("ef"); other != f || !slices.Equal(again[:1], want) || told[0].Text != "ab" {
		t.Errorf("%s, %s, %s", shown(other), shownLines(told), shownLines(again))
	}
	if _, l := Push(f, nil); l != nil {
		t.Errorf("no bytes: %s", shownLines(l))
	}
}

// TestOthers holds that calls end, and do not panic, with frames that no call told.
func TestOthers(t *testing.T) {
	for _, most := range []int{math.MinInt, -1, 0, 1, 3, 2000, 2001, math.MaxInt} {
		for _, held := range []string{"", "a", "\r", "a\r\nb", many('a', 5000)} {
			for bits := range 4 {
				f := api.Frame{Most: most, Held: held, Over: bits&1 > 0, Cr: bits&2 > 0}
				for _, piece := range []string{"", "\n", "\r", "x\r\ny\r\r\n", many('z', 3000)} {
					g, _ := Push(f, []byte(piece))
					Rest(g)
				}
				Rest(f)
			}
		}
	}
	if s := Rest(api.Frame{Most: 9, Held: "a", Cr: true}); s != "a\r" {
		t.Errorf("Rest tells %s", short(s))
	}
}

// TestGreat takes as much as some million bytes through one frame, in one piece and byte by byte.
func TestGreat(t *testing.T) {
	const count = 1 << 21
	f, told := Push(empty(t, 2000), bytes.Repeat([]byte("x"), count))
	if want := (api.Frame{Most: 2000, Held: many('x', 2000), Over: true}); f != want || told != nil {
		t.Errorf("%s, %s", shown(f), shownLines(told))
	}
	f, told = Push(empty(t, 2000), bytes.Repeat([]byte("\r\n"), count))
	if f != empty(t, 2000) || len(told) != count {
		t.Errorf("%s, %s", shown(f), shownLines(told))
	}
	f, told = Push(empty(t, 2000), bytes.Repeat([]byte("\r"), count))
	if want := (api.Frame{Most: 2000, Held: many('\r', 2000), Over: true, Cr: true}); f != want || told != nil {
		t.Errorf("%s, %s", shown(f), shownLines(told))
	}
	f = empty(t, 2000)
	for range 1 << 18 {
		f, told = Push(f, []byte("\r"))
		if told != nil {
			t.Fatalf("%s", shownLines(told))
		}
	}
	wantPush(t, f, "\n", []api.Line{long(many('\r', 2000))}, empty(t, 2000), "")
}
