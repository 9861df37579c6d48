package header

import (
	"bytes"
	"slices"
	"strconv"
	"strings"
	"testing"

	"franking/api"
)

// short answers the beginning of a text that is long, in quotes.
func short(s string) string {
	if len(s) > 600 {
		return strconv.Quote(s[:200]) + " and so on, " + strconv.Itoa(len(s)) + " in all"
	}
	return strconv.Quote(s)
}

// often answers a text, as often as is told.
func often(s string, many int) string { return strings.Repeat(s, many) }

// xs answers a word of so many bytes.
func xs(many int) string { return often("x", many) }

// field answers a field.
func field(name, text string) api.Field { return api.Field{Name: name, Text: text} }

// hopsOf answers how many of some fields are named as a trace is.
func hopsOf(l []api.Field) int {
	many := 0
	for _, f := range l {
		if strings.EqualFold(f.Name, "received") {
			many++
		}
	}
	return many
}

// wantSplit holds the fields of a body, where its text begins, how many hops it has, and that the body stays.
func wantSplit(t testing.TB, body string, at int, want ...api.Field) {
	t.Helper()
	b := []byte(body)
	if l, n, err := Split(b); !slices.Equal(l, want) || n != at || err != api.OK {
		t.Errorf("Split of %s: %q, %d, %d; want %q, %d", short(body), l, n, err, want, at)
	}
	wantHops(t, body, hopsOf(want))
	if string(b) != body {
		t.Errorf("Split made %s of %s", short(string(b)), short(body))
	}
}

// wantWrong holds where the first wrong line of a body begins, and that there are no fields then.
func wantWrong(t testing.TB, body string, at int) {
	t.Helper()
	b := []byte(body)
	if l, n, err := Split(b); len(l) > 0 || n != at || err != api.ErrHeader {
		t.Errorf("Split of %s: %q, %d, %d; want none, %d, ErrHeader", short(body), l, n, err, at)
	}
	if string(b) != body {
		t.Errorf("Split made %s of %s", short(string(b)), short(body))
	}
}

func wantHops(t testing.TB, body string, want int) {
	t.Helper()
	b := []byte(body)
	if n := Hops(b); n != want {
		t.Errorf("Hops of %s: %d; want %d", short(body), n, want)
	}
	if string(b) != body {
		t.Errorf("Hops made %s of %s", short(string(b)), short(body))
	}
}

// wantGot holds the text of a name's first field.
func wantGot(t testing.TB, l []api.Field, name, want string) {
	t.Helper()
	if s, ok := Get(l, name); s != want || !ok {
		t.Errorf("Get of %q among %q: %q, %t; want %q", name, l, s, ok, want)
	}
}

// wantNone holds that no field has one of some names.
func wantNone(t testing.TB, l []api.Field, names ...string) {
	t.Helper()
	for _, name := range names {
		if s, ok := Get(l, name); s != "" || ok {
			t.Errorf("Get of %q among %q: %q, %t; want none", name, l, s, ok)
		}
	}
}

// wantPrinted holds that fields are right, what is printed of them, that each line is as short as it may be, and that they are read again.
func wantPrinted(t testing.TB, want string, l ...api.Field) {
	t.Helper()
	for _, f := range l {
		if !Right(f) {
			t.Errorf("Right of %q: false", f)
		}
	}
	given := slices.Clone(l)
	got, err := Print(l)
	if string(got) != want || err != api.OK {
		t.Errorf("Print of %q: %s, %d; want %s", l, short(string(got)), err, short(want))
	}
	if !slices.Equal(l, given) {
		t.Errorf("Print made %q of %q", l, given)
	}
	wantFolded(t, string(got))
	for _, behind := range []string{"", "\r\n", "\r\n" + want, "\r\n x", "\r\n\r\n"} {
		wantSplit(t, want+behind, len(want)+min(len(behind), 2), l...)
	}
}

// wantFolded holds of what is printed that no line is longer than may be that has a blank to cut it at, and that none was cut that need not be.
func wantFolded(t testing.TB, printed string) {
	t.Helper()
	lines := strings.Split(printed, "\r\n")
	if last := lines[len(lines)-1]; last != "" {
		t.Errorf("%s ends with %s", short(printed), short(last))
	}
	for i, line := range lines[:len(lines)-1] {
		if line == "" || len(line) > 78 && strings.ContainsAny(line[1:], " \t") {
			t.Errorf("%s has the line %s", short(printed), short(line))
		}
		next := lines[i+1]
		if next == "" || next[0] != ' ' && next[0] != '\t' {
			continue // what is behind is another field, or nothing
		}
		// The first word that went on to the next line, and the blanks ahead: with them the line is too long, or it was not to be cut there.
		if first := 1 + strings.IndexAny(next[1:]+" ", " \t"); len(line)+first <= 78 {
			t.Errorf("%s has the lines %s and %s, and more fits into the first one", short(printed), short(line), short(next))
		}
	}
}

// wantNotRight holds that fields are none that may be printed, alone or among others, nor put ahead of a body.
func wantNotRight(t testing.TB, l ...api.Field) {
	t.Helper()
	ok := field("A", "b")
	for _, f := range l {
		if Right(f) {
			t.Errorf("Right of %q: true", f)
		}
		for _, all := range [][]api.Field{{f}, {ok, f}, {f, ok}, {ok, f, ok}, {f, f}} {
			if s, err := Print(all); len(s) > 0 || err != api.ErrHeader {
				t.Errorf("Print of %q: %s, %d; want ErrHeader", all, short(string(s)), err)
			}
		}
		for _, body := range []string{"", "C: d\r\n", "x"} {
			if s, err := Add(f, []byte(body)); len(s) > 0 || err != api.ErrHeader {
				t.Errorf("Add of %q: %s, %d; want ErrHeader", f, short(string(s)), err)
			}
		}
	}
}

// wantTrace holds the trace's text.
func wantTrace(t testing.TB, from, by string, id, now int, want string) {
	t.Helper()
	f, err := Trace(from, by, id, now)
	if f != field("Received", want) || err != api.OK {
		t.Errorf("Trace of %q, %q, %d, %d: %q, %d; want %q", from, by, id, now, f, err, want)
	}
	if !Right(f) {
		t.Errorf("Right of %q: false", f)
	}
}

func wantNoTrace(t testing.TB, from, by string, id, now int) {
	t.Helper()
	if f, err := Trace(from, by, id, now); f != (api.Field{}) || err != api.ErrArg {
		t.Errorf("Trace of %q, %q, %d, %d: %q, %d; want ErrArg", from, by, id, now, f, err)
	}
}

// wantAdded holds a field that is put ahead of a body.
func wantAdded(t testing.TB, f api.Field, body, ahead string) {
	t.Helper()
	b := []byte(body)
	got, err := Add(f, b)
	if string(got) != ahead+body || err != api.OK {
		t.Errorf("Add of %q to %s: %s, %d; want %s", f, short(body), short(string(got)), err, short(ahead+body))
	}
	if string(b) != body {
		t.Errorf("Add made %s of %s", short(string(b)), short(body))
	}
}

func TestExamples(t *testing.T) {
	wantSplit(t, "A: b\r\n c\r\nD:\r\n\r\nx", 16, field("A", "b c"), field("D", ""))
	wantWrong(t, " a: b", 0)
	wantWrong(t, "A: b\r\nc d", 6)
	wantTrace(t, "x.y", "b", 7, 9, "from x.y by b id 7; 9")
}

// P17.1: where the header ends, and the text begins.
func TestWhereTextBegins(t *testing.T) {
	a := field("A", "b")
	wantSplit(t, "", 0)
	wantSplit(t, "\r\n", 2)
	wantSplit(t, "\r\n\r\n", 2)
	wantSplit(t, "\r\n x", 2)
	wantSplit(t, "\r\nA: b\r\n", 2)
	wantSplit(t, "\r\n no field", 2)
	wantSplit(t, "A:b", 3, a)
	wantSplit(t, "A:b\r\n", 5, a)
	wantSplit(t, "A:b\r\n\r\n", 7, a)
	wantSplit(t, "A:b\r\n\r\n\r\n", 7, a)
	wantSplit(t, "A:b\r\n\r\nC:d\r\n\r\n", 7, a)
	wantSplit(t, "A:b\r\n\r\n c\r\n", 7, a)
	wantSplit(t, "A:b\r\n\r\nx\r\n\r\ny", 7, a)
	wantSplit(t, "A:b\r\n\r\n\x00\xff", 7, a)
	wantSplit(t, "A:b\r\nA:b", 8, a, a)
	wantSplit(t, "A:b\r\n ", 6, a)
	wantSplit(t, "A:b\r\n \r\n", 8, a)
	wantSplit(t, "A:b\r\n \r\n\r\n", 10, a)
	wantSplit(t, "A:b\r\n\t", 6, a)
}

// P17.1: 13 and 10 end a line only one behind the other.
func TestLoneEnds(t *testing.T) {
	for _, s := range []string{"\r", "\n", "\n\r", "\n\n", "\r\r"} {
		wantWrong(t, s, 0)
		wantWrong(t, s+"\r\n", 0)
		wantWrong(t, s+"\r\n\r\n", 0)
		wantWrong(t, s+"A: b", 0)
		wantWrong(t, "A"+s+": b", 0)
		wantWrong(t, "A: b\r\n"+s, 6)
		wantWrong(t, "A: b\r\n"+s+"\r\n", 6)
		wantWrong(t, "A: b\r\n c\r\n"+s+" d", 10)
		at := len("A: b\r\n") + len(s)
		wantSplit(t, "A: b"+s, at-2, field("A", "b"+s))
		wantSplit(t, "A: b"+s+"\r\n", at, field("A", "b"+s))
		wantSplit(t, "A: b"+s+"\r\n\r\n", at+2, field("A", "b"+s))
		wantSplit(t, "A: b"+s+"c\r\n", at+1, field("A", "b"+s+"c"))
		wantSplit(t, "A: b"+s+" c:d\r\n", at+4, field("A", "b"+s+" c:d"))
		wantSplit(t, "A:"+s+"b\r\n", at-1, field("A", s+"b"))
		wantSplit(t, "A: "+s+" b\r\n", at+1, field("A", s+" b"))
		wantSplit(t, "A: b\r\n "+s+" \r\n", at+4, field("A", "b "+s))
		wantSplit(t, "A: b\r\n "+s+"C: d\r\nE:", at+9, field("A", "b "+s+"C: d"), field("E", ""))
		wantSplit(t, "A: b\r\n\r\n"+s, 8, field("A", "b"))
	}
	wantSplit(t, "A: b\r\r\n\r\n", 9, field("A", "b\r"))
	wantSplit(t, "A: b\r\r\n \n\r\n", 11, field("A", "b\r \n"))
	wantWrong(t, "A: b\r\n\r", 6)
	wantWrong(t, "A: b\r\n\n", 6)
	wantWrong(t, "A: b\n\r\nc", 7)
	wantWrong(t, "A: b\r\nc\n\r\n", 6)
}

// isOfName tells whether a byte may stand in a field's name.
func isOfName(c int) bool { return c >= 33 && c <= 126 && c != 58 }

// P17.1, P17.3: each byte in a name, alone, first, within, and last.
func TestNames(t *testing.T) {
	for c := range 256 {
		b := string([]byte{byte(c)})
		for _, name := range []string{b, b + "A", "A" + b + "B", "A" + b, b + b} {
			if isOfName(c) {
				wantSplit(t, name+":c\r\n", len(name)+4, field(name, "c"))
				wantPrinted(t, name+":\r\n", field(name, ""))
				wantPrinted(t, name+": c d\r\n", field(name, "c d"))
				continue
			}
			wantNotRight(t, field(name, ""), field(name, "c"))
			if c == ':' && name[0] == 'A' {
				wantSplit(t, name+":c", len(name)+2, field("A", name[2:]+":c"))
				continue
			}
			wantWrong(t, name+":c\r\n", 0)
			// What begins with a blank is of the field ahead.
			if name[0] == ' ' || name[0] == '\t' {
				wantSplit(t, "A:\r\n"+name+":c", len(name)+6, field("A", strings.TrimLeft(name, " \t")+":c"))
				continue
			}
			wantWrong(t, "A:\r\n"+name+":c", 4)
		}
	}
	every := ""
	for c := range 256 {
		if isOfName(c) {
			every += string([]byte{byte(c)})
		}
	}
	if len(every) != 93 {
		t.Errorf("%d bytes may stand in a name", len(every))
	}
	wantSplit(t, every+":", 94, field(every, ""))
	wantPrinted(t, every+":\r\n z\r\n", field(every, "z"))
	wantNotRight(t, api.Field{}, field("", "a"), field(":", ""), field("A:", "b"), field("A B", "c"), field("A ", ""), field(" A", ""), field("A\t", ""), field("A\r\n", ""), field("\xc3\xa9", ""), field("A\x00", "b"))
	wantWrong(t, ":", 0)
	wantWrong(t, ": a\r\n", 0)
	wantWrong(t, "A: b\r\n: c\r\n", 6)
	wantWrong(t, "A", 0)
	wantWrong(t, "A\r\n:b", 0)
	wantWrong(t, "A\r\n", 0)
	wantWrong(t, "A\r\n :b", 0)
	wantWrong(t, "A : b", 0)
	wantWrong(t, "A\t: b", 0)
}

// P17.1: lines that begin with a blank, of which only these two bytes are ones.
func TestBlanks(t *testing.T) {
	for c := range 256 {
		b := string([]byte{byte(c)})
		if c == ' ' || c == '\t' {
			wantSplit(t, "A:b\r\n"+b+"c:d\r\n", 11, field("A", "b"+b+"c:d"))
			wantSplit(t, "A:b\r\n"+b, 6, field("A", "b"))
			wantSplit(t, "A:"+b+b+"b c"+b+"\r\n", 10, field("A", "b c"))
			wantSplit(t, "A:"+b+"\r\n"+b+"\r\n"+b+b+"c", 11, field("A", "c"))
			wantSplit(t, "A:"+b+"\r\n"+b+"\r\n"+b, 9, field("A", ""))
			wantNotRight(t, field("A", b), field("A", b+"c"), field("A", "c"+b), field("A", b+"c"+b))
			wantWrong(t, b, 0)
			wantWrong(t, b+"\r\n", 0)
			wantWrong(t, b+"A: b\r\n", 0)
			wantWrong(t, b+"\r\nA: b\r\n", 0)
			wantWrong(t, b+"A: b\r\n"+b+"c\r\n", 0)
			wantHops(t, b+"Received: b\r\n", 0)
			wantHops(t, b+"\r\nReceived: b\r\n", 0)
			continue
		}
		if isOfName(c) {
			wantSplit(t, "A:b\r\n"+b+"c:d\r\n", 11, field("A", "b"), field(b+"c", "d"))
		} else {
			wantWrong(t, "A:b\r\n"+b+"c:d\r\n", 5)
		}
		if c == '\r' || c == '\n' {
			continue
		}
		// Whatever else it is, it stands in a text as it is.
		wantSplit(t, "A: "+b+"\r\n", 6, field("A", b))
		wantSplit(t, "A: "+b+"x"+b+"\t\r\n", 9, field("A", b+"x"+b))
		wantPrinted(t, "A: "+b+"\r\n", field("A", b))
		wantPrinted(t, "A: "+b+"x"+b+" "+b+"\r\n", field("A", b+"x"+b+" "+b))
	}
}

// P17.1: fields of many lines.
func TestManyLines(t *testing.T) {
	wantSplit(t, "A: b\r\n c\r\n\td\r\n  e \r\n", 20, field("A", "b c\td  e"))
	wantSplit(t, "A:\r\n b\r\nC:\r\n\r\n", 14, field("A", "b"), field("C", ""))
	wantSplit(t, "A:\r\n \r\n\t\r\n  \r\nC:d", 17, field("A", ""), field("C", "d"))
	wantSplit(t, "A: \t b \t \r\n \t \r\n c\r\n \t\r\n", 24, field("A", "b \t  \t  c"))
	wantSplit(t, "A:b\r\n :\r\n C:d\r\n", 15, field("A", "b : C:d"))
	wantSplit(t, "A:::\r\nB: :\r\n", 12, field("A", "::"), field("B", ":"))
	wantSplit(t, "A:b"+often("\r\n c", 500)+"\r\n", 2005, field("A", "b"+often(" c", 500)))
	wantSplit(t, "A:"+often("\r\n \t ", 500), 2502, field("A", ""))
	wantSplit(t, "A:"+often("\r\n ", 500)+"x"+often(" \r\n ", 500), 3503, field("A", "x"))
	wantSplit(t, "a: 1\r\nB: 2\r\nA: 3\r\na: 1\r\n", 24, field("a", "1"), field("B", "2"), field("A", "3"), field("a", "1"))
	var l []api.Field
	body := ""
	for i := range 300 {
		n := strconv.Itoa(i)
		l = append(l, field("F"+n, n+" and "+n))
		body += "F" + n + ": " + n + "\r\n and " + n + " \r\n"
	}
	wantSplit(t, body, len(body), l...)
	wantSplit(t, body+"\r\nx", len(body)+2, l...)
}

// P17.1: an error is told at the first wrong line, whatever is behind it.
func TestWrong(t *testing.T) {
	for _, ahead := range []string{"", "A:\r\n", "A: b\r\n c\r\n", "Received: x\r\nB:\r\n \r\n", "A:b\r\nA:b\r\n\t\t\r\n", "A:\n\r\r\n"} {
		for _, wrong := range []string{"x", "x y: z", "x ", ":", "::x", "\x00:", "\x7f:", "\x80:x", "x\x7f:", "a\tb:", "\n", "\r", "a", "x\ry", ".", "From a b", "--"} {
			for _, behind := range []string{"", "\r\n", "\r\n\r\n", "\r\n y\r\n", "\r\nz", "\r\n z: a\r\nb", "\r\nA: b\r\n", "\r\n:\r\n"} {
				wantWrong(t, ahead+wrong+behind, len(ahead))
				wantHops(t, ahead+wrong+behind, strings.Count(ahead, "Received"))
			}
		}
		// Behind the empty line nothing is wrong.
		l, _, _ := Split([]byte(ahead))
		wantSplit(t, ahead+"\r\nx y\r\n", len(ahead)+2, l...)
	}
	wantWrong(t, " a\r\n b\r\nc\r\n", 0)
	wantWrong(t, "x\r\n y\r\n:\r\n", 0)
}

// P17.2: the first field of a name, letters great or small.
func TestGet(t *testing.T) {
	l := []api.Field{field("a", "1"), field("A", "2"), field("Subject", "x y"), field("SUBJECT", ""), field("b-c", ""), field("B-C", "3"), field("[", "4"), field("{", "5"), field("@", "6"), field("`", "7"), field("Z", "8"), field("z", "9")}
	for name, want := range map[string]string{"a": "1", "A": "1", "subject": "x y", "Subject": "x y", "sUBJECT": "x y", "SUBJECT": "x y", "B-c": "", "b-C": "", "[": "4", "{": "5", "@": "6", "`": "7", "z": "8", "Z": "8"} {
		wantGot(t, l, name, want)
	}
	wantNone(t, l, "", "aa", "b", "b-", "b-c ", " a", "a:", "Subjec", "Subjects", "ubject", "S", "\\", "|", "!", "\x01", "\xc1", "a\x00", "B\rC")
	wantNone(t, nil, "", "a", "Received")
	wantNone(t, []api.Field{}, "", "a")
	// Letters are A to Z alone, and no other two bytes are alike.
	for c := range 256 {
		for d := range 256 {
			l := []api.Field{field("x"+string([]byte{byte(c)}), "y")}
			name := "X" + string([]byte{byte(d)})
			if c == d || c^d == 32 && (c|32) >= 'a' && (c|32) <= 'z' {
				wantGot(t, l, name, "y")
			} else {
				wantNone(t, l, name)
			}
		}
	}
	wantNone(t, []api.Field{field("s", "1"), field("k", "2"), field("\u00e9", "3"), field("\xff", "4")}, "\u017f", "\u212a", "\u00c9", "\ufffd", "\xfe")
	// Of fields that are not right, too, it is told.
	wantGot(t, []api.Field{{}}, "", "")
	wantGot(t, []api.Field{field("b", "1"), field("", "2"), field("", "3")}, "", "2")
	wantGot(t, []api.Field{field("A b:", " \r\n")}, "a B:", " \r\n")
	wantGot(t, []api.Field{field("\u00e9", "1")}, "\u00e9", "1")
}

// P17.2: traces are counted by their name alone, in the header alone, up to a wrong line.
func TestHops(t *testing.T) {
	for body, want := range map[string]int{
		"":                                     0,
		"\r\n":                                 0,
		"A: b\r\n":                             0,
		"Received:":                            1,
		"Received: a":                          1,
		"Received: a\r\n":                      1,
		"received:\r\nRECEIVED:\r\nrEcEiVeD:x": 3,
		"Received: a\r\nX: Received: b\r\n":    1,
		"Received: a\r\n Received: b\r\n":      1,
		"Received: a\r\n\tReceived: b\r\nReceived: c\r\n\r\nReceived: d\r\n": 2,
		"\r\nReceived: a\r\n":                            0,
		" Received: a\r\nReceived: b\r\n":                0,
		"Received : a\r\n":                               0,
		"Received\r\n":                                   0,
		"Received":                                       0,
		"Receive: a\r\nReceiveds: b\r\n":                 0,
		"XReceived: a\r\nX-Received: b\r\n":              0,
		"Receiv\x85d: a":                                 0,
		"Received: a\r\nwrong\r\nReceived: b":            1,
		"Received: a\r\n b\r\nwrong\r\n":                 1,
		"Received:\r\nwrong: \r\nreceived:\r\n:\r\n":     2,
		"Received: a\nReceived: b\r\nReceived: c":        2,
		"Received: a\rReceived: b\r\r\nReceived: c":      2,
		"x\r\nReceived: a\r\n":                           0,
		"A:\r\n\rReceived: a\r\n":                        0,
		"A:\r\nReceived: b\r\n\nReceived: a\r\n":         1,
		often("Received: a\r\n", 100):                    100,
		often("Received: a\r\n b\r\nX: y\r\n", 70) + "!": 70,
	} {
		wantHops(t, body, want)
	}
}

// P17.3: texts that may be printed, and those that may not.
func TestRight(t *testing.T) {
	for _, text := range []string{"", "b", "b c", "b\tc", "b  \t c", ":", "\x00", "\xff\xfe", "\x0b", "\x0c", "\x85", "\u00a0", "\u00a0b\u2003", "a\u2028b", xs(1000), ".", "A: b"} {
		if !Right(field("A", text)) {
			t.Errorf("Right of the text %q: false", text)
		}
	}
	for _, text := range []string{" ", "\t", " b", "\tb", "b ", "b\t", " b ", "\r", "\n", "\r\n", "b\r", "b\n", "\rb", "\nb", "b\rc", "b\nc", "b\r\n c", "b\r\nC: d", xs(1000) + "\r" + xs(1000), xs(1000) + "\n", xs(1000) + " ", " " + xs(1000), "\xff\r", "\xff\n\xff", "\xff "} {
		wantNotRight(t, field("A", text))
	}
}

// P17.3: fields, none, one, many, one behind the other.
func TestPrint(t *testing.T) {
	wantPrinted(t, "")
	wantPrinted(t, "A:\r\n", field("A", ""))
	wantPrinted(t, "A: b\r\n", field("A", "b"))
	wantPrinted(t, "A: b\r\na:\r\nA: b\r\nReceived: c d\r\n", field("A", "b"), field("a", ""), field("A", "b"), field("Received", "c d"))
	wantPrinted(t, "a: :\r\nb: c:\r\n", field("a", ":"), field("b", "c:"))
	wantPrinted(t, often("X-Y: z\r\n", 400), slices.Repeat([]api.Field{field("X-Y", "z")}, 400)...)
	if s, err := Print(nil); len(s) > 0 || err != api.OK {
		t.Errorf("Print of none: %q, %d", s, err)
	}
	var l []api.Field
	for range 50 {
		l = append(l, field("A", "b"))
	}
	for at := range l {
		one := slices.Clone(l)
		one[at].Text = "b\n"
		if s, err := Print(one); len(s) > 0 || err != api.ErrHeader {
			t.Errorf("Print with the field %d not right: %q, %d", at, s, err)
		}
	}
}

// P17.3: lines of 77, 78 and 79 bytes, and blanks at the places that matter.
func TestFold(t *testing.T) {
	for _, c := range []struct{ name, text, want string }{
		{"A", xs(74), "A: " + xs(74)},
		{"A", xs(75), "A: " + xs(75)},
		{"A", xs(76), "A:\r\n " + xs(76)},
		{"A", xs(77), "A:\r\n " + xs(77)},
		{"A", xs(78), "A:\r\n " + xs(78)},
		{"A", xs(500), "A:\r\n " + xs(500)},
		{"A", "x " + xs(72), "A: x " + xs(72)},
		{"A", "x " + xs(73), "A: x " + xs(73)},
		{"A", "x " + xs(74), "A: x\r\n " + xs(74)},
		{"A", xs(73) + " y", "A: " + xs(73) + " y"},
		{"A", xs(74) + " y", "A: " + xs(74) + "\r\n y"}, // 79 bytes, the blank at 77
		{"A", xs(75) + " y", "A: " + xs(75) + "\r\n y"}, // the blank at 78
		{"A", xs(76) + " y", "A:\r\n " + xs(76) + "\r\n y"},
		{"A", xs(75) + "  y", "A: " + xs(75) + "\r\n  y"},
		{"A", xs(74) + "  y", "A: " + xs(74) + " \r\n y"},
		{"A", xs(75) + "  " + xs(76), "A: " + xs(75) + "\r\n  " + xs(76)},
		{"A", xs(75) + "  " + xs(77), "A: " + xs(75) + "\r\n \r\n " + xs(77)}, // what is left has its blank at 1
		{"A", xs(75) + " \t" + xs(100) + "\ty", "A: " + xs(75) + "\r\n \r\n\t" + xs(100) + "\r\n\ty"},
		{"A", xs(100) + " " + xs(100) + " y", "A:\r\n " + xs(100) + "\r\n " + xs(100) + "\r\n y"},
		{"A", xs(100) + " " + xs(5) + " " + xs(80), "A:\r\n " + xs(100) + "\r\n " + xs(5) + "\r\n " + xs(80)},
		{"A", "x" + often(" ", 200) + "y", "A: x" + often(" ", 74) + "\r\n" + often(" ", 78) + "\r\n" + often(" ", 48) + "y"},
		{"A", "x" + often("\t", 200) + "y", "A: x" + often("\t", 74) + "\r\n" + often("\t", 78) + "\r\n" + often("\t", 48) + "y"},
		{"A", "x" + often(" ", 74+78+77) + "y", "A: x" + often(" ", 74) + "\r\n" + often(" ", 78) + "\r\n" + often(" ", 77) + "y"},
		{"A", "x" + often(" ", 74+78+78) + "y", "A: x" + often(" ", 74) + "\r\n" + often(" ", 78) + "\r\n" + often(" ", 77) + "\r\n y"},
		{"A", xs(70) + "\t" + xs(9), "A: " + xs(70) + "\r\n\t" + xs(9)},
		{"A", xs(60) + "\t" + xs(5) + " " + xs(20), "A: " + xs(60) + "\t" + xs(5) + "\r\n " + xs(20)},
		{"A", xs(60) + " " + xs(5) + "\t" + xs(20), "A: " + xs(60) + " " + xs(5) + "\r\n\t" + xs(20)},
		{xs(74), "y", xs(74) + ": y"},
		{xs(75), "y", xs(75) + ": y"},
		{xs(76), "y", xs(76) + ":\r\n y"},
		{xs(77), "y", xs(77) + ":\r\n y"}, // the blank at 78
		{xs(78), "y", xs(78) + ":\r\n y"}, // the blank at 79
		{xs(79), "y z", xs(79) + ":\r\n y z"},
		{xs(300), "y", xs(300) + ":\r\n y"},
		{xs(77), "", xs(77) + ":"},
		{xs(78), "", xs(78) + ":"},
		{xs(300), "", xs(300) + ":"},
		{"A", "\u00a0" + often("\u00e9", 37) + "z", "A:\r\n \u00a0" + often("\u00e9", 37) + "z"},
		{"A", often("\xff\x00", 36) + " \xff\xff", "A: " + often("\xff\x00", 36) + " \xff\xff"},
		{"A", often("\xff\x00", 36) + " \xff\xff\xff", "A: " + often("\xff\x00", 36) + "\r\n \xff\xff\xff"},
	} {
		wantPrinted(t, c.want+"\r\n", field(c.name, c.text))
		wantPrinted(t, "B: c\r\n"+c.want+"\r\n"+c.want+"\r\n", field("B", "c"), field(c.name, c.text), field(c.name, c.text))
		wantAdded(t, field(c.name, c.text), "\r\nx", c.want+"\r\n")
	}
}

// P17.3: lines of several hundred bytes, of words of each length.
func TestFoldWords(t *testing.T) {
	for long := 1; long < 120; long++ {
		word := xs(long)
		for _, blank := range []string{" ", "\t", "  "} {
			text := word + often(blank+word, 800/long)
			f := field("Name", text)
			s, err := Print([]api.Field{f})
			if err != api.OK {
				t.Fatal(long, err)
			}
			wantPrinted(t, string(s), f)
			if joined := strings.ReplaceAll(string(s), "\r\n", ""); joined != "Name: "+text {
				t.Errorf("Print of %q: %q", f, s)
			}
		}
	}
	// Words of nine bytes, seven of them a line, but for the first one.
	line := often(" abcdefghi", 7)
	wantPrinted(t, "Name:"+line+"\r\n"+line+"\r\n"+line+"\r\n abcdefghi\r\n", field("Name", strings.TrimSpace(line+line+line+" abcdefghi")))
}

// P17.4: what a trace says.
func TestTrace(t *testing.T) {
	const most = 1 << 40
	wantTrace(t, "", "b", 7, 9, "by b id 7; 9")
	wantTrace(t, "", "b.c", 0, 0, "by b.c id 0; 0")
	wantTrace(t, "x", "b", most, most, "from x by b id 1099511627776; 1099511627776")
	wantTrace(t, "X.y-Z", "B.C", 1, 10, "from X.y-Z by B.C id 1; 10")
	wantTrace(t, "[1.2.3.4]", "b", 12, 0, "from [1.2.3.4] by b id 12; 0")
	wantTrace(t, "[IPv6:A::b]", "b", 0, 12, "from [IPv6:A::b] by b id 0; 12")
	wantTrace(t, "[ipv6:::]", "1.2.3.4", 5, 5, "from [ipv6:::] by 1.2.3.4 id 5; 5")
	wantTrace(t, "1.2.3.4", "0", 5, 5, "from 1.2.3.4 by 0 id 5; 5")
	long := often("a.", 127) + "b"
	wantTrace(t, long, long, 5, 6, "from "+long+" by "+long+" id 5; 6")
	wantTrace(t, xs(63), xs(63), 5, 6, "from "+xs(63)+" by "+xs(63)+" id 5; 6")
	for _, n := range []int{0, 1, 9, 10, 1<<31 - 1, 1 << 31, 1 << 32, most - 1, most} {
		s := strconv.Itoa(n)
		wantTrace(t, "", "b", n, 3, "by b id "+s+"; 3")
		wantTrace(t, "", "b", 3, n, "by b id 3; "+s)
	}
	for _, n := range []int{-1, -1 << 40, -1 << 63, most + 1, 1 << 41, 1<<63 - 1} {
		for _, from := range []string{"", "x", "[1.2.3.4]"} {
			wantNoTrace(t, from, "b", n, 3)
			wantNoTrace(t, from, "b", 3, n)
			wantNoTrace(t, from, "b", n, n)
		}
	}
	bad := []string{" ", "a b", "a ", " a", "-a", "a-", "a..b", ".a", "a.", ".", "a_b", "a@b", "a:1", "a;", "a\r\n", "a\n", "a\x00", "\u00e9", "\xff", "[", "]", "[]", "[]]", "[[]", "[a]", "[1.2.3]", "[1.2.3.4", "1.2.3.4]", "[[1.2.3.4]]", "[1.2.3.4] ", " [1.2.3.4]", "[1.2.3.256]", "[1.2.3.4.5]", "[IPv6:]", "IPv6:::", "[IPv6:1:2]", "a[1.2.3.4]", xs(64), "a." + xs(64), often("a.", 127) + "bc", "<a>", "[a.b]", "[]1.2.3.4[]"}
	for _, s := range bad {
		wantNoTrace(t, s, "b", 1, 1)
		wantNoTrace(t, s, "", 1, 1)
		wantNoTrace(t, s, s, 1, 1)
		for _, from := range []string{"", "x", "[1.2.3.4]"} {
			wantNoTrace(t, from, s, 1, 1)
		}
	}
	for _, from := range []string{"", "x", "[1.2.3.4]"} {
		for _, by := range []string{"", "[1.2.3.4]", "[IPv6:::]"} {
			wantNoTrace(t, from, by, 1, 1)
		}
	}
}

// P17.3: a field ahead of any body.
func TestAdd(t *testing.T) {
	for _, body := range []string{"", "C: d\r\n", "\r\n", "\r\nx", " x", "\tx\r\n", "x", "\x00\xff", "A: b\r\n\r\nx\r\n", "\r", "\n", xs(1000)} {
		wantAdded(t, field("A", ""), body, "A:\r\n")
		wantAdded(t, field("A", "b"), body, "A: b\r\n")
		wantAdded(t, field("A", xs(40)+" "+xs(40)), body, "A: "+xs(40)+"\r\n "+xs(40)+"\r\n")
	}
	if s, err := Add(field("A", "b"), nil); string(s) != "A: b\r\n" || err != api.OK {
		t.Errorf("Add to nothing: %q, %d", s, err)
	}
}

// wantHop holds that a trace is one hop more of a body, and changes no other field, nor where the text begins behind it.
func wantHop(t testing.TB, f api.Field, body string) {
	t.Helper()
	b, err := Add(f, []byte(body))
	if err != api.OK {
		t.Fatal(f, err)
	}
	if Hops(b) != Hops([]byte(body))+1 {
		t.Errorf("Hops of %s: %d; and of %s: %d", short(body), Hops([]byte(body)), short(string(b)), Hops(b))
	}
	l, at, err := Split([]byte(body))
	ahead := len(b) - len(body)
	if err != api.OK {
		wantWrong(t, string(b), ahead+at)
		return
	}
	wantSplit(t, string(b), ahead+at, append([]api.Field{f}, l...)...)
}

// P17.5: each trace is one hop more.
func TestHopByHop(t *testing.T) {
	for _, body := range []string{"", "\r\n", "\r\n x", "A: b\r\n", "A: b\r\n c\r\n\r\nx", "Received: a\r\n\tb\r\n\r\nx", "x", "A: b\r\nx\r\nReceived: c\r\n", ":", "\r", "\n\r\n", "\x00"} {
		for hop := range 110 {
			from := []string{"", "x.y", "[1.2.3.4]", xs(63) + "." + xs(63)}[hop%4]
			f, err := Trace(from, "mx.org", hop, hop*1000)
			if err != api.OK {
				t.Fatal(err)
			}
			wantHop(t, f, body)
			b, _ := Add(f, []byte(body))
			body = string(b)
		}
		if n := Hops([]byte(body)); n < 110 || n > 111 {
			t.Errorf("%d hops", n)
		}
	}
	// What begins with a blank goes on with the trace that is put ahead.
	b, _ := Add(field("Received", "a"), []byte(" b\r\nC: d\r\n"))
	wantSplit(t, string(b), 23, field("Received", "a b"), field("C", "d"))
}

// What is told is in memory of its own, and what is handed in stays, and what stands behind it.
func TestOwnMemory(t *testing.T) {
	const body = "A: b\r\n c\r\nReceived: d\r\n\r\nx"
	room := []byte(body + "\r\nbehind it")
	b := room[:len(body)]
	l, at, err := Split(b)
	want := []api.Field{field("A", "b c"), field("Received", "d")}
	if !slices.Equal(l, want) || at != len(body)-1 || err != api.OK {
		t.Fatalf("%q, %d, %d", l, at, err)
	}
	got, _ := Get(l, "a")
	added, _ := Add(field("N", "m"), b)
	if string(room) != body+"\r\nbehind it" {
		t.Errorf("what was handed in became %q", room)
	}
	again, _, _ := Split(b)
	for i := range room {
		room[i] = '!'
	}
	if !slices.Equal(l, want) || string(added) != "N: m\r\n"+body || got != "b c" {
		t.Errorf("%q, %q, %q", l, added, got)
	}
	again[0], again[1] = api.Field{}, api.Field{}
	if !slices.Equal(l, want) {
		t.Errorf("%q", l)
	}
	list := append(slices.Clone(want), field("E", "f"), field("not right:", "\r"))
	first, _ := Print(list[:3])
	second, _ := Print(list[:3])
	if !slices.Equal(list, append(slices.Clone(want), field("E", "f"), field("not right:", "\r"))) {
		t.Errorf("Print made %q", list)
	}
	for i := range first {
		first[i] = '!'
	}
	if string(second) != "A: b c\r\nReceived: d\r\nE: f\r\n" {
		t.Errorf("%q", second)
	}
	// A line that would go on behind what was handed in does not.
	wantSplit(t, string(room[:0]), 0)
	some := []byte("A: b\r\n c")
	if l, at, err := Split(some[:5]); !slices.Equal(l, []api.Field{field("A", "b\r")}) || at != 5 || err != api.OK {
		t.Errorf("%q, %d, %d", l, at, err)
	}
	if l, at, err := Split(some[:6]); !slices.Equal(l, []api.Field{field("A", "b")}) || at != 6 || err != api.OK {
		t.Errorf("%q, %d, %d", l, at, err)
	}
}

// R1: what is great ends soon.
func TestGreat(t *testing.T) {
	const many = 1 << 20
	for _, s := range []string{"x", " ", "\r", "\n", "\t\r", "\n ", "x ", " x", " :", "\x00"} {
		wantWrong(t, "x"+often(s, many)+" :", 0)
		wantWrong(t, "A:\r\nx"+often(s, many)+" :", 4)
		text := "x" + often(s, many) + "x"
		wantSplit(t, "A:"+text, len(text)+2, field("A", text))
		wantSplit(t, "A:b\r\n"+" "+text+"\r\n", len(text)+8, field("A", "b "+text))
		wantSplit(t, "\r\n"+often(s, many), 2)
		if strings.ContainsAny(s, "\r\n") {
			wantNotRight(t, field("A", text))
			continue
		}
		b, err := Print([]api.Field{field("A", text), field("B", text)})
		if err != api.OK {
			t.Fatal(err)
		}
		wantSplit(t, string(b), len(b), field("A", text), field("B", text))
		if !bytes.Equal(bytes.ReplaceAll(b, []byte("\r\n"), nil), []byte("A: "+text+"B: "+text)) {
			t.Errorf("Print of %s", short(text))
		}
	}
	wantSplit(t, "A"+often(":", many), many+1, field("A", often(":", many-1)))
	wantSplit(t, "A:"+often("\r\n ", many), 3*many+2, field("A", ""))
	wantSplit(t, "A:"+often("\r\n x", many), 4*many+2, field("A", often(" x", many)[1:]))
	wantSplit(t, xs(many)+":\r\n", many+3, field(xs(many), ""))
	wantHops(t, often("Received:\r\n", many), many)
	wantHops(t, often("Received:\r\n \r\n", many)+"!", many)
	wantSplit(t, often("A:\r\n", many), 4*many, slices.Repeat([]api.Field{field("A", "")}, many)...)
	all := slices.Repeat([]api.Field{field(xs(80), "")}, many)
	all[many-1].Name = "B"
	wantGot(t, all, "b", "")
	wantNone(t, all, "c", xs(79), xs(81), xs(79)+"y")
	all[many-1].Name = ""
	if b, err := Print(all); len(b) > 0 || err != api.ErrHeader {
		t.Errorf("Print: %d bytes, %d", len(b), err)
	}
	wantNoTrace(t, xs(many), "b", 1, 1)
	wantNoTrace(t, "["+often("1.", many)+"]", "b", 1, 1)
	wantNoTrace(t, "", often("a.", many), 1, 1)
}
