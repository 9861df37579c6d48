package lex

import (
	"slices"
	"strings"
	"testing"

	"franking/api"
)

func name(at int, text string) api.Tok {
	return api.Tok{Kind: api.TokName, At: at, Text: text}
}

func sgn(at int, kind uint8) api.Tok { return api.Tok{Kind: kind, At: at} }

func times(at, least, most int) api.Tok {
	return api.Tok{Kind: api.TokTimes, At: at, Min: least, Max: most}
}

func chars(at int, text string) api.Tok {
	return api.Tok{Kind: api.TokChars, At: at, Text: text}
}

func values(at int, text string) api.Tok {
	return api.Tok{Kind: api.TokBytes, At: at, Text: text}
}

func span2(at int, lo, hi uint8) api.Tok {
	return api.Tok{Kind: api.TokRange, At: at, Lo: lo, Hi: hi}
}

func end(at int) api.Tok { return sgn(at, api.TokEnd) }

func wantToks(t *testing.T, s string, want ...api.Tok) {
	t.Helper()
	got, at, err := Lex(s)
	if err != api.OK || at != 0 || !slices.Equal(got, want) {
		t.Errorf("Lex(%.60q):\n got %v, %d, %d\nwant %v, 0, 0", s, got, at, err, want)
	}
}

func wantErr(t *testing.T, s string, at int, err api.Errno) {
	t.Helper()
	got, gotAt, gotErr := Lex(s)
	if gotErr != err || gotAt != at || len(got) != 0 {
		t.Errorf("Lex(%.60q): got %v, %d, %d; want nothing, %d, %d", s, got, gotAt, gotErr, at, err)
	}
}

// P1.1: the chapter's examples.
func TestExamples(t *testing.T) {
	wantToks(t, "a = 1*3b ; x", name(0, "a"), sgn(2, api.TokIs), times(4, 1, 3), name(7, "b"), end(12))
	wantToks(t, `a "b" / %x41-5A %d13.10`, name(0, "a"), chars(2, "b"), sgn(6, api.TokOr), span2(8, 65, 90), values(16, "\r\n"), end(23))
	wantToks(t, "a *", name(0, "a"), times(2, 0, -1), end(3))
	wantToks(t, "a 5", name(0, "a"), times(2, 5, 5), end(3))
	wantToks(t, "a 2*", name(0, "a"), times(2, 2, -1), end(4))
	wantErr(t, "= a", 0, api.ErrLine)
	wantErr(t, "a = 5*3b", 4, api.ErrTimes)
	wantErr(t, "a = <b>", 4, api.ErrProse)
	wantErr(t, "a = %x100", 4, api.ErrValue)
	wantErr(t, "a = $", 4, api.ErrByte)
	wantToks(t, "")
}

// P1.1: names and signs, the longest first.
func TestNamesAndSigns(t *testing.T) {
	wantToks(t, "aZ-09--", name(0, "aZ-09--"), end(7))
	wantToks(t, "ZzAa", name(0, "ZzAa"), end(4))
	wantToks(t, "a b", name(0, "a"), name(2, "b"), end(3))
	wantToks(t, "a=/b", name(0, "a"), sgn(1, api.TokMore), name(3, "b"), end(4))
	wantToks(t, "a= /", name(0, "a"), sgn(1, api.TokIs), sgn(3, api.TokOr), end(4))
	wantToks(t, "a==/=", name(0, "a"), sgn(1, api.TokIs), sgn(2, api.TokMore), sgn(4, api.TokIs), end(5))
	wantToks(t, "a/()[]", name(0, "a"), sgn(1, api.TokOr), sgn(2, api.TokOpen), sgn(3, api.TokShut), sgn(4, api.TokMay), sgn(5, api.TokDone), end(6))
}

// P1.1: how often: numbers of four digits and of five, and from more to less.
func TestTimes(t *testing.T) {
	wantToks(t, "a 9999", name(0, "a"), times(2, 9999, 9999), end(6))
	wantToks(t, "a 0000*0000", name(0, "a"), times(2, 0, 0), end(11))
	wantToks(t, "a 0", name(0, "a"), times(2, 0, 0), end(3))
	wantToks(t, "a *0", name(0, "a"), times(2, 0, 0), end(4))
	wantToks(t, "a *9999", name(0, "a"), times(2, 0, 9999), end(7))
	wantToks(t, "a 9999*", name(0, "a"), times(2, 9999, -1), end(7))
	wantToks(t, "a 7*7", name(0, "a"), times(2, 7, 7), end(5))
	wantToks(t, "a 09*10b", name(0, "a"), times(2, 9, 10), name(7, "b"), end(8))
	wantToks(t, "a **", name(0, "a"), times(2, 0, -1), times(3, 0, -1), end(4))
	wantToks(t, "a 1*2*3", name(0, "a"), times(2, 1, 2), times(5, 0, 3), end(7))
	wantToks(t, "a 1 *", name(0, "a"), times(2, 1, 1), times(4, 0, -1), end(5))
	wantErr(t, "a 10000", 2, api.ErrNumber)
	wantErr(t, "a 00001*", 2, api.ErrNumber)
	wantErr(t, "a *10000", 3, api.ErrNumber)
	wantErr(t, "a 12*00013", 5, api.ErrNumber)
	wantErr(t, "a 12345*12345", 2, api.ErrNumber)
	wantErr(t, "a 8*7", 2, api.ErrTimes)
	wantErr(t, "a 9*00001", 4, api.ErrNumber)
	wantErr(t, "a 1*0", 2, api.ErrTimes)
	wantErr(t, "a 9999*9998", 2, api.ErrTimes)
}

// P1.1: quoted texts.
func TestChars(t *testing.T) {
	wantToks(t, `a ""`, name(0, "a"), chars(2, ""), end(4))
	wantToks(t, `a "";`, name(0, "a"), chars(2, ""), end(5))
	wantToks(t, `a "; (=<%$"b`, name(0, "a"), chars(2, "; (=<%$"), name(11, "b"), end(12))
	wantToks(t, "a \" ~\"\"x\"", name(0, "a"), chars(2, " ~"), chars(6, "x"), end(9))
	for b := range 256 {
		s := "a \"" + string([]byte{byte(b)}) + "\""
		switch {
		case b == '"':
			wantErr(t, s, 4, api.ErrChars)
		case b >= 32 && b <= 126:
			wantToks(t, s, name(0, "a"), chars(2, s[3:4]), end(5))
		default:
			wantErr(t, s, 2, api.ErrChars)
		}
	}
	wantErr(t, `a "`, 2, api.ErrChars)
	wantErr(t, `a "b`, 2, api.ErrChars)
	wantErr(t, "a \"b\r\n\"", 2, api.ErrChars)
	wantErr(t, "a \"b\n c\"", 2, api.ErrChars)
	wantErr(t, "a \"b\tc\"", 2, api.ErrChars)
	wantErr(t, "a \"é\"", 2, api.ErrChars)
	wantErr(t, "a \"\xc3\"", 2, api.ErrChars)
	wantErr(t, "a \"\xe2\x82\"", 2, api.ErrChars)
}

// P1.1: values: bases, eight digits and nine, 255 and 256, points and ranges.
func TestValues(t *testing.T) {
	wantToks(t, "a %x0000fF", name(0, "a"), values(2, "\xff"), end(10))
	wantToks(t, "a %X000000Af", name(0, "a"), values(2, "\xaf"), end(12))
	wantToks(t, "a %d00000255", name(0, "a"), values(2, "\xff"), end(12))
	wantToks(t, "a %D0", name(0, "a"), values(2, "\x00"), end(5))
	wantToks(t, "a %b11111111", name(0, "a"), values(2, "\xff"), end(12))
	wantToks(t, "a %B0-1", name(0, "a"), span2(2, 0, 1), end(7))
	wantToks(t, "a %b102", name(0, "a"), values(2, "\x02"), times(6, 2, 2), end(7))
	wantToks(t, "a %d1f", name(0, "a"), values(2, "\x01"), name(5, "f"), end(6))
	wantToks(t, "a %xag", name(0, "a"), values(2, "\x0a"), name(5, "g"), end(6))
	wantToks(t, "a %x00-00", name(0, "a"), span2(2, 0, 0), end(9))
	wantToks(t, "a %d0-255", name(0, "a"), span2(2, 0, 255), end(9))
	wantToks(t, "a %x00000001-00000002", name(0, "a"), span2(2, 1, 2), end(21))
	wantToks(t, "a %x1.02.ff", name(0, "a"), values(2, "\x01\x02\xff"), end(11))
	wantToks(t, "a %d3.2.1", name(0, "a"), values(2, "\x03\x02\x01"), end(9))
	wantToks(t, "a %x1%x2", name(0, "a"), values(2, "\x01"), values(5, "\x02"), end(8))
	for _, s := range []string{
		"%", "% x1", "%c1", "%1", "%%x1", "%x", "%xg", "%d", "%da", "%b", "%b2",
		"%d256", "%x100", "%xfffffff", "%xffffffff", "%x00000100", "%d99999999", "%b100000000",
		"%x000000001", "%d000000001", "%b000000001", "%xfffffffffffffffff",
		"%x1-", "%x1-g", "%x1- 2", "%x1-100", "%x1-000000002", "%x2-1", "%d10-9", "%b1-0",
		"%x1.", "%x1.g", "%x1. 2", "%x1..2", "%x1.100", "%x1.000000002", "%x1.2.", "%d1.2.256",
	} {
		wantErr(t, "a "+s, 2, api.ErrValue)
		wantErr(t, "a "+s+"\n", 2, api.ErrValue)
		wantErr(t, "a\r\n\t"+s, 4, api.ErrValue)
	}
	wantErr(t, "a %x1-2.3", 7, api.ErrByte)
	wantErr(t, "a %x1-2-3", 7, api.ErrByte)
	wantErr(t, "a %x1.2-3", 7, api.ErrByte)
}

// P1.1: every byte within a line, where it begins no other token, is an error.
func TestBytes(t *testing.T) {
	for b := range 256 {
		s := "a " + string([]byte{byte(b)}) + " "
		_, at, err := Lex(s)
		switch known := isNamed(byte(b)) && b != '-' || strings.IndexByte(" \t\n;=/()[]*", byte(b)) >= 0; {
		case known && (err != api.OK || at != 0):
			t.Errorf("byte %d: %d at %d", b, err, at)
		case b == '"':
			wantErr(t, s, 2, api.ErrChars)
		case b == '%':
			wantErr(t, s, 2, api.ErrValue)
		case b == '<':
			wantErr(t, s, 2, api.ErrProse)
		case !known:
			wantErr(t, s, 2, api.ErrByte)
		}
	}
}

// P1.1: what begins a line, with a rule open and without one.
func TestLineStarts(t *testing.T) {
	for b := range 256 {
		first := string([]byte{byte(b)})
		blank, letter := b == ' ' || b == '\t', isLetter(byte(b))
		switch {
		case b == ';':
			wantToks(t, first+" b")
			wantToks(t, "x\n"+first+" b", name(0, "x"), end(5))
		case b == '\n':
			wantErr(t, first+" b", 1, api.ErrLine)
			wantToks(t, "x\n"+first+" b", name(0, "x"), name(4, "b"), end(5))
		case letter:
			wantToks(t, first+" b", name(0, first), name(2, "b"), end(3))
			wantToks(t, "x\n"+first+" b", name(0, "x"), end(2), name(2, first), name(4, "b"), end(5))
		case blank:
			wantErr(t, first+"b", 0, api.ErrLine)
			wantToks(t, "x\n"+first+"b", name(0, "x"), name(3, "b"), end(4))
		default:
			wantErr(t, first+" b", 0, api.ErrLine)
			wantErr(t, "x\n"+first+" b", 2, api.ErrLine)
		}
	}
	wantErr(t, ";\r\n \n a", 5, api.ErrLine)
	wantErr(t, "\r", 0, api.ErrLine)
	wantErr(t, "\r\r\n", 0, api.ErrLine)
	wantErr(t, " \r", 0, api.ErrLine)
	wantErr(t, "a\n\r", 2, api.ErrLine)
	wantErr(t, "a\n \r", 3, api.ErrByte)
}

// P1.1: lines that end with 13 10, with 10, and with the text; remarks, blank and folded lines.
func TestLines(t *testing.T) {
	wantToks(t, "a\r\n", name(0, "a"), end(3))
	wantToks(t, "a\n", name(0, "a"), end(2))
	wantToks(t, "a", name(0, "a"), end(1))
	wantToks(t, "a\nb\r\nc", name(0, "a"), end(2), name(2, "b"), end(5), name(5, "c"), end(6))
	wantToks(t, "a\n\n\t \r\n ; x\n;y\r\n b", name(0, "a"), name(17, "b"), end(18))
	wantToks(t, "a ; b \" < % $\xff\r\n\tc;\n;", name(0, "a"), name(17, "c"), end(21))
	wantToks(t, "a ;\r", name(0, "a"), end(4))
	wantToks(t, "a;\r\r\nb", name(0, "a"), end(5), name(5, "b"), end(6))
	wantToks(t, "a\r\n  \tb = ", name(0, "a"), name(6, "b"), sgn(8, api.TokIs), end(10))
	wantErr(t, "a\r", 1, api.ErrByte)
	wantErr(t, "a\r\r\n", 1, api.ErrByte)
	wantErr(t, "a\rb\n", 1, api.ErrByte)
}

// P1.1: a text without any rule has no tokens, and no end.
func TestNoRule(t *testing.T) {
	for _, s := range []string{"", "\n", "\r\n", " ", "\t", ";", " ; a = $", "\n\n\r\n \t\r\n;\n", ";\r", " ;\xff\x00"} {
		wantToks(t, s)
	}
}

// P1.1: of several errors the first one, whatever its kind.
func TestFirstError(t *testing.T) {
	faults := []struct {
		s   string
		bad int
		err api.Errno
	}{
		{"12345", 0, api.ErrNumber}, {"1*12345", 2, api.ErrNumber}, {"2*1", 0, api.ErrTimes}, {`"` + "\x01", 0, api.ErrChars},
		{"%x", 0, api.ErrValue}, {"<", 0, api.ErrProse}, {"$", 0, api.ErrByte}, {"-", 0, api.ErrByte},
	}
	for _, one := range faults {
		for _, two := range faults {
			wantErr(t, "a "+one.s+" "+two.s, 2+one.bad, one.err)
			wantErr(t, "a\n "+one.s+"\n"+two.s, 3+one.bad, one.err)
			wantErr(t, "a b\n= "+one.s+"\n "+two.s, 4, api.ErrLine)
		}
		wantErr(t, "a "+one.s+"\n=", 2+one.bad, one.err)
		wantErr(t, " "+one.s, 0, api.ErrLine)
		wantToks(t, "a ;"+one.s, name(0, "a"), end(3+len(one.s)))
	}
}

// P1.1: 65536 bytes, and one more.
func TestLong(t *testing.T) {
	most := strings.Repeat("a", api.MaxGrammar)
	wantToks(t, most, name(0, most), end(api.MaxGrammar))
	wantErr(t, most+"a", api.MaxGrammar, api.ErrLong)
	wantErr(t, most+most, api.MaxGrammar, api.ErrLong)
	blank := strings.Repeat("\n", api.MaxGrammar)
	wantToks(t, blank)
	wantErr(t, blank+"\n", api.MaxGrammar, api.ErrLong)
	wrong := "=" + most
	wantErr(t, wrong[:api.MaxGrammar], 0, api.ErrLine)
	wantErr(t, wrong, api.MaxGrammar, api.ErrLong)
	late := most[:api.MaxGrammar-2] + " $"
	wantErr(t, late, api.MaxGrammar-1, api.ErrByte)
}

// What is handed out is new: a change of one answer is not seen in the next.
func TestNewLists(t *testing.T) {
	const s = `a = 1*2( %x41.42 / "b" )`
	one, _, _ := Lex(s)
	want := slices.Clone(one)
	clear(one)
	_ = append(one[:1], api.Tok{Kind: 99})
	wantToks(t, s, want...)
}
