package dots

import (
	"bytes"
	"slices"
	"strconv"
	"strings"
	"testing"
)

// short answers the beginning of a text that is long, in quotes.
func short(s string) string {
	if len(s) > 200 {
		return strconv.Quote(s[:200]) + " and so on, " + strconv.Itoa(len(s)) + " in all"
	}
	return strconv.Quote(s)
}

// wantSent holds what is sent of a body, and that the body stays.
func wantSent(t testing.TB, body, sent string) {
	t.Helper()
	b := []byte(body)
	if got := string(Encode(b)); got != sent {
		t.Errorf("Encode of %s: %s; want %s", short(body), short(got), short(sent))
	}
	if string(b) != body {
		t.Errorf("Encode made %s of %s", short(string(b)), short(body))
	}
}

// wantRead holds the body that is read, and how many bytes are taken, and that what was handed in stays.
func wantRead(t testing.TB, s, body string, taken int) {
	t.Helper()
	b := []byte(s)
	got, n, ok := Decode(b)
	if string(got) != body || n != taken || !ok {
		t.Errorf("Decode of %s: %s, %d, %t; want %s, %d, true", short(s), short(string(got)), n, ok, short(body), taken)
	}
	if string(b) != s {
		t.Errorf("Decode made %s of %s", short(string(b)), short(s))
	}
}

// wantNone holds that bytes are not a body's.
func wantNone(t testing.TB, s string) {
	t.Helper()
	if got, n, ok := Decode([]byte(s)); len(got) > 0 || n != 0 || ok {
		t.Errorf("Decode of %s: %s, %d, %t; want nothing, 0, false", short(s), short(string(got)), n, ok)
	}
}

func wantStuffed(t testing.TB, line, stuffed string) {
	t.Helper()
	if got := Stuff(line); got != stuffed {
		t.Errorf("Stuff of %s: %s; want %s", short(line), short(got), short(stuffed))
	}
}

func wantUnstuffed(t testing.TB, line, rest string, isEnd bool) {
	t.Helper()
	if got, is := Unstuff(line); got != rest || is != isEnd {
		t.Errorf("Unstuff of %s: %s, %t; want %s, %t", short(line), short(got), is, short(rest), isEnd)
	}
}

func TestExamples(t *testing.T) {
	wantStuffed(t, ".a", "..a")
	wantStuffed(t, "a.", "a.")
	wantUnstuffed(t, ".", "", true)
	wantUnstuffed(t, "..", ".", false)
	wantSent(t, "a\r\n.b", "a\r\n..b\r\n.\r\n")
	wantSent(t, "", ".\r\n")
	wantRead(t, ".\r\nand more", "", 3)
	wantNone(t, "a.")
}

func TestStuff(t *testing.T) {
	for line, want := range map[string]string{
		"":               "",
		".":              "..",
		"..":             "...",
		"...":            "....",
		".a":             "..a",
		"..a":            "...a",
		"....a.":         ".....a.",
		". ":             ".. ",
		"a":              "a",
		"a.":             "a.",
		"a..b":           "a..b",
		" .":             " .",
		"\x00.":          "\x00.",
		"\r":             "\r",
		"\n":             "\n",
		"\r\n":           "\r\n",
		".\r":            "..\r",
		".\n":            "..\n",
		".\r\n":          "..\r\n",
		"\r.":            "\r.",
		"\n.":            "\n.",
		"\r\n.":          "\r\n.",
		"\r\n.\r\n":      "\r\n.\r\n",
		"a\r\n.b\r\n.\n": "a\r\n.b\r\n.\n",
		".a\r\n.b\r\n.":  "..a\r\n.b\r\n.",
		"\xe2\x80\xa4":   "\xe2\x80\xa4",
		".\xff\xfe\x00":  "..\xff\xfe\x00",
	} {
		wantStuffed(t, line, want)
		wantUnstuffed(t, want, line, false)
	}
}

func TestUnstuff(t *testing.T) {
	for line, want := range map[string]string{
		"":               "",
		"..":             ".",
		"...":            "..",
		"....":           "...",
		".a":             "a",
		"..a":            ".a",
		"...a..":         "..a..",
		". ":             " ",
		"a":              "a",
		"a.":             "a.",
		"a.b":            "a.b",
		" .":             " .",
		" ..":            " ..",
		"\r":             "\r",
		"\n":             "\n",
		"\r\n":           "\r\n",
		".\r":            "\r",
		".\n":            "\n",
		".\r\n":          "\r\n",
		"..\r\n":         ".\r\n",
		"\r.":            "\r.",
		"\n.":            "\n.",
		"\r\n.":          "\r\n.",
		"\r\n.\r\n":      "\r\n.\r\n",
		".a\r\n.b\r\n.":  "a\r\n.b\r\n.",
		"a\r\n.b\r\n.\n": "a\r\n.b\r\n.\n",
		".\x00":          "\x00",
		"\x00.":          "\x00.",
		".\xff\xfe":      "\xff\xfe",
		"\xe2\x80\xa4":   "\xe2\x80\xa4",
	} {
		wantUnstuffed(t, line, want, false)
	}
	wantUnstuffed(t, ".", "", true)
}

// TestAllBytes holds that the dot alone is special where a line begins, and 13 and 10 alone where it ends.
func TestAllBytes(t *testing.T) {
	for c := range 256 {
		s := string([]byte{byte(c)})
		ahead := ""
		if c == '.' {
			ahead = "."
		}
		wantStuffed(t, s, ahead+s)
		wantStuffed(t, s+".b", ahead+s+".b")
		wantStuffed(t, "."+s, ".."+s)
		wantUnstuffed(t, "."+s, s, false)
		wantUnstuffed(t, ahead+s+"b", s+"b", false)
		wantSent(t, s, ahead+s+"\r\n.\r\n")
		wantSent(t, "a\r\n"+s+"\r\n", "a\r\n"+ahead+s+"\r\n.\r\n")
		wantSent(t, "a\r\n."+s+"\r\n", "a\r\n.."+s+"\r\n.\r\n")
		wantRead(t, "."+s+"\r\n.\r\n", s+"\r\n", 7)
		wantRead(t, ahead+s+"b\r\n.\r\n", s+"b\r\n", len(ahead)+7)
		if c != '\n' {
			wantSent(t, "a\r"+s+".\r\n", "a\r"+s+".\r\n.\r\n")
			wantNone(t, "a\r"+s+".\r\n")
			wantNone(t, ".\r"+s)
		}
		if c != '\r' {
			wantSent(t, "a"+s+"\n.\r\n", "a"+s+"\n.\r\n.\r\n")
			wantNone(t, "a"+s+"\n.\r\n")
			wantNone(t, "."+s+"\n")
		}
	}
	var all []byte
	for c := range 256 {
		all = append(all, byte(c))
	}
	wantSent(t, string(all), string(all)+"\r\n.\r\n")
	slices.Reverse(all)
	wantSent(t, string(all), string(all)+"\r\n.\r\n")
	wantRead(t, string(all)+"\r\n.\r\n"+string(all), string(all)+"\r\n", 261)
}

func TestEncode(t *testing.T) {
	for body, lines := range map[string]string{
		"":                              "",
		"a":                             "a\r\n",
		"a\r\n":                         "a\r\n",
		"hello, world":                  "hello, world\r\n",
		"\r\n":                          "\r\n",
		"\r\n\r\n":                      "\r\n\r\n",
		"a\r\n\r\n":                     "a\r\n\r\n",
		"\r\na":                         "\r\na\r\n",
		"a\r\nb":                        "a\r\nb\r\n",
		"a\r\nb\r\n":                    "a\r\nb\r\n",
		"a\r\n\r\nb\r\n\r\n\r\nc":       "a\r\n\r\nb\r\n\r\n\r\nc\r\n",
		"\r":                            "\r\r\n",
		"\n":                            "\n\r\n",
		"\n\r":                          "\n\r\r\n",
		"\r\r":                          "\r\r\r\n",
		"\n\n":                          "\n\n\r\n",
		"a\rb":                          "a\rb\r\n",
		"a\nb":                          "a\nb\r\n",
		"a\r.b\n.c\n\r.d":               "a\r.b\n.c\n\r.d\r\n",
		"a\n":                           "a\n\r\n",
		"a\r":                           "a\r\r\n",
		"a\r\nb\r":                      "a\r\nb\r\r\n",
		"a\r\n\r":                       "a\r\n\r\r\n",
		"a\r\n\n":                       "a\r\n\n\r\n",
		"\r\r\n":                        "\r\r\n",
		"\r\n\n":                        "\r\n\n\r\n",
		"a\r\r\n.b":                     "a\r\r\n..b\r\n",
		"a\r\n\n.b":                     "a\r\n\n.b\r\n",
		"a\r\n\r.b":                     "a\r\n\r.b\r\n",
		".":                             "..\r\n",
		".\r\n":                         "..\r\n",
		"..":                            "...\r\n",
		"..\r\n":                        "...\r\n",
		"...":                           "....\r\n",
		".a":                            "..a\r\n",
		".a\r\n":                        "..a\r\n",
		"a.":                            "a.\r\n",
		"a.\r\n":                        "a.\r\n",
		".\r":                           "..\r\r\n",
		".\n":                           "..\n\r\n",
		".\r\r\n":                       "..\r\r\n",
		".\r\nb\r\nc":                   "..\r\nb\r\nc\r\n",
		"a\r\n.\r\nc":                   "a\r\n..\r\nc\r\n",
		"a\r\nb\r\n.":                   "a\r\nb\r\n..\r\n",
		"a\r\nb\r\n.\r\n":               "a\r\nb\r\n..\r\n",
		"..\r\nb\r\nc":                  "...\r\nb\r\nc\r\n",
		"a\r\n..\r\nc":                  "a\r\n...\r\nc\r\n",
		"a\r\nb\r\n..":                  "a\r\nb\r\n...\r\n",
		"a\r\nb\r\n..\r\n":              "a\r\nb\r\n...\r\n",
		".a\r\nb\r\nc":                  "..a\r\nb\r\nc\r\n",
		"a\r\n.b\r\nc":                  "a\r\n..b\r\nc\r\n",
		"a\r\nb\r\n.c":                  "a\r\nb\r\n..c\r\n",
		"a\r\nb\r\n.c\r\n":              "a\r\nb\r\n..c\r\n",
		".\r\n.\r\n.":                   "..\r\n..\r\n..\r\n",
		".a\r\n..b\r\n...\r\n.\r\n\r\n": "..a\r\n...b\r\n....\r\n..\r\n\r\n",
		"Subject: x\r\n\r\n.hidden\r\n": "Subject: x\r\n\r\n..hidden\r\n",
		"\x00\xff\xe2\x82\xac\r\n.\x00": "\x00\xff\xe2\x82\xac\r\n..\x00\r\n",
	} {
		wantSent(t, body, lines+".\r\n")
	}
	if sent := Encode(nil); string(sent) != ".\r\n" {
		t.Errorf("Encode of none: %q", sent)
	}
}

func TestDecode(t *testing.T) {
	for name, c := range map[string]struct {
		s, body string
		taken   int
	}{
		"the end alone":                         {".\r\n", "", 3},
		"the end, and more":                     {".\r\nabc", "", 3},
		"the end, and half a line's end":        {".\r\n\r", "", 3},
		"the end, and another":                  {".\r\n.\r\n", "", 3},
		"one line":                              {"a\r\n.\r\n", "a\r\n", 6},
		"one line, and more":                    {"a\r\n.\r\nb", "a\r\n", 6},
		"one line, and another body":            {"a\r\n.\r\nb\r\n.\r\n", "a\r\n", 6},
		"an empty line":                         {"\r\n.\r\n", "\r\n", 5},
		"empty lines":                           {"\r\n\r\n\r\n.\r\n\r\n", "\r\n\r\n\r\n", 9},
		"the end amid lines":                    {"a\r\nbc\r\n.\r\nd\r\n", "a\r\nbc\r\n", 10},
		"a line that was stuffed":               {"..a\r\n.\r\n", ".a\r\n", 8},
		"a dot that was":                        {"..\r\n.\r\n", ".\r\n", 7},
		"two dots that were":                    {"...\r\n.\r\n", "..\r\n", 8},
		"a line that was not":                   {".a\r\n.\r\n", "a\r\n", 7},
		"lines that were not":                   {".a\r\n.b\r\nc\r\n.\r\n", "a\r\nb\r\nc\r\n", 14},
		"lines of both kinds":                   {".a\r\n..b\r\n...\r\n.\r\n..\r\n", "a\r\n.b\r\n..\r\n", 17},
		"a dot and a blank":                     {". \r\n.\r\n", " \r\n", 7},
		"a dot behind a byte":                   {"a.\r\n .\r\n.\r\n", "a.\r\n .\r\n", 11},
		"a dot and a 13":                        {".\r\r\n.\r\n", "\r\r\n", 7},
		"a dot and a 10":                        {".\n\r\n.\r\n", "\n\r\n", 7},
		"a dot and a 10, a 13":                  {".\n\r\r\n.\r\n", "\n\r\r\n", 8},
		"a dot behind a 13":                     {"a\r.\r\n.\r\n", "a\r.\r\n", 8},
		"a dot behind a 10":                     {"a\n.\r\n.\r\n", "a\n.\r\n", 8},
		"a 13 ahead of the end":                 {"a\r\r\n.\r\n", "a\r\r\n", 7},
		"a 10 ahead of the end":                 {"a\n\r\n.\r\n", "a\n\r\n", 7},
		"a 10 behind a line's end":              {"a\r\n\n.\r\n.\r\n", "a\r\n\n.\r\n", 10},
		"a 13 behind a line's end":              {"a\r\n\r.\r\n.\r\n", "a\r\n\r.\r\n", 10},
		"a 13 behind the end":                   {"a\r\n.\r\n\r\n", "a\r\n", 6},
		"a dot behind the end":                  {"a\r\n.\r\n.", "a\r\n", 6},
		"bytes of all kinds":                    {"\x00\xff\r\n.\xe2\x82\xac\r\n.\r\n\x00", "\x00\xff\r\n\xe2\x82\xac\r\n", 13},
		"a dot's likes":                         {"\xae\r\n\x2c\r\n\x2f\r\n.\r\n", "\xae\r\n\x2c\r\n\x2f\r\n", 12},
		"the first of two ends":                 {"a\r\n.\r\n..\r\n.\r\n", "a\r\n", 6},
		"a line like an end of another fashion": {"a\n.\n\r\n.\r\n", "a\n.\n\r\n", 9},
	} {
		t.Run(name, func(t *testing.T) { wantRead(t, c.s, c.body, c.taken) })
	}
}

func TestNoBodys(t *testing.T) {
	for _, s := range []string{
		"", ".", ".\r", ".\n", "..", "...", "..\r\n", "...\r\n", ".\r\r\n", ".\n\r\n", ".\n\r", ". \r\n", " .\r\n", "\x00.\r\n", ".\x00\r\n",
		"a", "a\r\n", "a.", "a.\r\n", ".a", ".a\r\n", "\r", "\n", "\r\n", "\r\n\r\n", "\r\n.", "\r\n.\r", "\r\n.\n",
		"a\r\n.", "a\r\n.\r", "a\r\n.\n", "a\r\n.\r\r\n", "a\r\n..\r\n", "a\r\n.b\r\n", "a\r\n.\rb", "a\r\nb\r\n.", "a\r\nb\r\n.\r",
		"a\n.\n", "a\n.\r\n", "a\r.\r\n", "a\r.\r", "a\r\n\n.\r\n", "a\r\n\r.\r\n", "a\n\r.\r\n", "\n.\r\n", "\r.\r\n", "a\r\n \r\n.\n",
		"a.\r\n.b\r\n..\r\n", "hello\r\nworld", strings.Repeat(".", 100), strings.Repeat("..\r\n", 100) + ".\r",
	} {
		wantNone(t, s)
	}
	if body, n, ok := Decode(nil); len(body) > 0 || n != 0 || ok {
		t.Errorf("Decode of none: %q, %d, %t", body, n, ok)
	}
}

// room answers the bytes of a text with spare room behind them, and all of that.
func room(s string) ([]byte, []byte) {
	all := append([]byte(s), bytes.Repeat([]byte("-"), 100)...)
	return all[:len(s)], all
}

// spoil puts other bytes to all that there is, the spare room among it.
func spoil(b []byte) {
	b = b[:cap(b)]
	for i := range b {
		b[i] = '!'
	}
}

// wantApart holds that neither what is handed in nor what is told becomes other bytes by those that are put to the other one.
func wantApart(t testing.TB, s, want string, call func([]byte) []byte) {
	t.Helper()
	in, all := room(s)
	told := call(in)
	spoil(all)
	if string(told) != want {
		t.Errorf("of %q, which changed then: %q; want %q", s, told, want)
	}
	in, all = room(s)
	told, other := call(in), call(in)
	spoil(told)
	if string(in) != s || strings.Trim(string(all[len(s):]), "-") != "" {
		t.Errorf("%q is %q, and behind it %q", s, in, all[len(s):])
	}
	if string(other) != want {
		t.Errorf("of %q, told twice: %q; want %q", s, other, want)
	}
}

// TestOwnMemory holds that what is told and what is handed in share nothing.
func TestOwnMemory(t *testing.T) {
	for body, sent := range map[string]string{
		"":            ".\r\n",
		"a":           "a\r\n.\r\n",
		"a\r\n":       "a\r\n.\r\n",
		"\r\n":        "\r\n.\r\n",
		"abc\r\nde":   "abc\r\nde\r\n.\r\n",
		".a\r\n.\r\n": "..a\r\n..\r\n.\r\n",
		"a\r":         "a\r\r\n.\r\n",
	} {
		wantApart(t, body, sent, Encode)
	}
	for s, body := range map[string]string{
		".\r\n":                "",
		".\r\nab":              "",
		"a\r\n.\r\n":           "a\r\n",
		"\r\n.\r\n":            "\r\n",
		".a\r\n.\r\nb":         "a\r\n",
		"abc\r\nde\r\n.\r\n":   "abc\r\nde\r\n",
		"..a\r\n..\r\n.\r\n..": ".a\r\n.\r\n",
		"a":                    "",
		"a\r\n.\r":             "",
	} {
		wantApart(t, s, body, func(b []byte) []byte {
			body, _, _ := Decode(b)
			return body
		})
	}
}

// TestGreat takes bodies of some million bytes, of very many lines and of very long ones.
func TestGreat(t *testing.T) {
	const many = 1 << 20
	for _, c := range []struct{ body, lines string }{
		{strings.Repeat("a", many), strings.Repeat("a", many) + "\r\n"},
		{strings.Repeat(".", many), strings.Repeat(".", many+1) + "\r\n"},
		{strings.Repeat("\r", many), strings.Repeat("\r", many+1) + "\n"},
		{strings.Repeat("\n", many), strings.Repeat("\n", many) + "\r\n"},
		{strings.Repeat("\n\r", many), strings.Repeat("\n\r", many) + "\r\n"},
		{strings.Repeat("\r\n", many), strings.Repeat("\r\n", many)},
		{strings.Repeat(".\r\n", many), strings.Repeat("..\r\n", many)},
		{strings.Repeat(".\r\n", many) + ".", strings.Repeat("..\r\n", many+1)},
		{strings.Repeat(strings.Repeat("x", 998)+"\r\n", many>>9), strings.Repeat(strings.Repeat("x", 998)+"\r\n", many>>9)},
	} {
		wantSent(t, c.body, c.lines+".\r\n")
		wantNone(t, c.lines+".\r")
		read := c.body
		if !strings.HasSuffix(read, "\r\n") {
			read += "\r\n"
		}
		wantRead(t, c.lines+".\r\n..\r\n", read, len(c.lines)+3)
	}
	wantStuffed(t, strings.Repeat(".", many), strings.Repeat(".", many+1))
	wantUnstuffed(t, strings.Repeat(".", many), strings.Repeat(".", many-1), false)
	wantUnstuffed(t, "a"+strings.Repeat(".", many), "a"+strings.Repeat(".", many), false)
}

// TestRow reads very many bodies that stand one behind the other, each in what the ones ahead of it left.
func TestRow(t *testing.T) {
	const many = 1 << 18
	ahead := bytes.Repeat([]byte(".\r\n.a\r\n.\r\n"), many)
	row := []struct {
		body  string
		taken int
	}{{"", 3}, {"a\r\n", 7}}
	for i := range 2 * many {
		body, n, ok := Decode(ahead)
		if want := row[i%2]; string(body) != want.body || n != want.taken || !ok {
			t.Fatalf("body %d: %q, %d, %t; want %q, %d, true", i, body, n, ok, want.body, want.taken)
		}
		ahead = ahead[n:]
	}
	if len(ahead) > 0 {
		t.Errorf("%d bytes are left", len(ahead))
	}
}
