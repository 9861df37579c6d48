package lex

import (
	"math/rand"
	"regexp"
	"slices"
	"strconv"
	"strings"
	"testing"

	"franking/api"
)

// The table of tokens once more, written as patterns, to hold the reader against.
var (
	idleLine   = regexp.MustCompile(`^[ \t]*(;|$)`)
	namePat    = regexp.MustCompile(`^[A-Za-z][A-Za-z0-9-]*`)
	timesPat   = regexp.MustCompile(`^([0-9]*)(\*?)([0-9]*)`)
	charsPat   = regexp.MustCompile(`^"([ !#-~]*)"`)
	valuesPats = map[int]*regexp.Regexp{
		16: regexp.MustCompile(`^%[xX]([0-9A-Fa-f]*)(?:-([0-9A-Fa-f]*)|((?:\.[0-9A-Fa-f]*)*))`),
		10: regexp.MustCompile(`^%[dD]([0-9]*)(?:-([0-9]*)|((?:\.[0-9]*)*))`),
		2:  regexp.MustCompile(`^%[bB]([01]*)(?:-([01]*)|((?:\.[01]*)*))`),
	}
)

// plainLex tells what Lex is to tell.
func plainLex(s string) ([]api.Tok, int, api.Errno) {
	var toks []api.Tok
	from, open := 0, false
	for _, whole := range strings.SplitAfter(s, "\n") {
		line := whole
		if strings.HasSuffix(line, "\n") {
			line = strings.TrimSuffix(line[:len(line)-1], "\r")
		}
		rule := namePat.MatchString(line)
		switch {
		case idleLine.MatchString(line):
			from += len(whole)
			continue
		case !rule && !(open && strings.Trim(line[:1], " \t") == ""):
			return nil, from, api.ErrLine
		case rule && open:
			toks = append(toks, end(from))
		}
		open = true
		for at := 0; at < len(line); {
			tok, size, bad, err := plainToken(line[at:])
			if err != api.OK {
				return nil, from + at + bad, err
			}
			if tok.At = from + at; tok.Kind != 0 {
				toks = append(toks, tok)
			}
			at += size
		}
		from += len(whole)
	}
	if open {
		toks = append(toks, end(len(s)))
	}
	return toks, 0, api.OK
}

func plainToken(rest string) (tok api.Tok, size, bad int, err api.Errno) {
	signs := map[byte]uint8{'=': api.TokIs, '/': api.TokOr, '(': api.TokOpen, ')': api.TokShut, '[': api.TokMay, ']': api.TokDone}
	b := rest[0]
	switch {
	case b == ' ' || b == '\t':
		return tok, 1, 0, api.OK
	case b == ';':
		return tok, len(rest), 0, api.OK
	case namePat.MatchString(rest):
		text := namePat.FindString(rest)
		return api.Tok{Kind: api.TokName, Text: text}, len(text), 0, api.OK
	case strings.HasPrefix(rest, "=/"):
		return api.Tok{Kind: api.TokMore}, 2, 0, api.OK
	case signs[b] != 0:
		return api.Tok{Kind: signs[b]}, 1, 0, api.OK
	case b == '*' || b >= '0' && b <= '9':
		return plainTimes(rest)
	case b == '"':
		if m := charsPat.FindStringSubmatch(rest); m != nil {
			return api.Tok{Kind: api.TokChars, Text: m[1]}, len(m[0]), 0, api.OK
		}
		return tok, 0, 0, api.ErrChars
	case b == '%':
		return plainValues(rest)
	case b == '<':
		return tok, 0, 0, api.ErrProse
	}
	return tok, 0, 0, api.ErrByte
}

func plainTimes(rest string) (tok api.Tok, size, bad int, err api.Errno) {
	m := timesPat.FindStringSubmatch(rest)
	if len(m[1]) > 4 {
		return tok, 0, 0, api.ErrNumber
	}
	if len(m[3]) > 4 {
		return tok, 0, len(m[1]) + 1, api.ErrNumber
	}
	least, _ := strconv.Atoi("0" + m[1])
	most := least
	if m[2] != "" {
		most = -1
		if m[3] != "" {
			most, _ = strconv.Atoi(m[3])
		}
	}
	if most >= 0 && most < least {
		return tok, 0, 0, api.ErrTimes
	}
	return api.Tok{Kind: api.TokTimes, Min: least, Max: most}, len(m[0]), 0, api.OK
}

func plainValues(rest string) (tok api.Tok, size, bad int, err api.Errno) {
	for base, pat := range valuesPats {
		m := pat.FindStringSubmatchIndex(rest)
		if m == nil {
			continue
		}
		words, kind := []string{rest[m[2]:m[3]]}, api.TokBytes
		if m[4] >= 0 {
			words, kind = append(words, rest[m[4]:m[5]]), api.TokRange
		} else if m[6] < m[7] {
			words = append(words, strings.Split(rest[m[6]+1:m[7]], ".")...)
		}
		var bytes []byte
		for _, w := range words {
			v, wrong := strconv.ParseUint(w, base, 8)
			if wrong != nil || len(w) > 8 {
				return tok, 0, 0, api.ErrValue
			}
			bytes = append(bytes, byte(v))
		}
		if kind == api.TokBytes {
			return api.Tok{Kind: kind, Text: string(bytes)}, m[1], 0, api.OK
		}
		if bytes[0] > bytes[1] {
			return tok, 0, 0, api.ErrValue
		}
		return api.Tok{Kind: kind, Lo: bytes[0], Hi: bytes[1]}, m[1], 0, api.OK
	}
	return tok, 0, 0, api.ErrValue
}

// checkText holds a text's answer against the patterns, and against what follows of places.
func checkText(t *testing.T, s string) {
	t.Helper()
	got, at, err := Lex(s)
	want, wantAt, wantNo := plainLex(s)
	if err != wantNo || at != wantAt || !slices.Equal(got, want) {
		t.Fatalf("Lex(%q):\n got %v, %d, %d\nwant %v, %d, %d", s, got, at, err, want, wantAt, wantNo)
	}
	checkPlaces(t, s, got)
}

// P1.2: places rise, and the bytes of names and quoted texts stand there. (A rule's end, and the name behind it, have the same place.)
func checkPlaces(t *testing.T, s string, toks []api.Tok) {
	t.Helper()
	free := 0
	for i, tok := range toks {
		if tok.At < free {
			t.Fatalf("%q: token %d stands at %d, ahead of %d", s, i, tok.At, free)
		}
		free = tok.At + 1
		if tok.Kind == api.TokEnd {
			free = tok.At
		}
		stands := tok.Text
		if tok.Kind == api.TokChars {
			stands = `"` + tok.Text + `"`
		}
		if tok.Kind != api.TokBytes && !strings.HasPrefix(s[tok.At:], stands) {
			t.Fatalf("%q: %q does not stand at %d", s, stands, tok.At)
		}
	}
}

// all goes through every text of at most that many bytes of an alphabet.
func all(alphabet string, most int, do func(string)) {
	var grow func(s string)
	grow = func(s string) {
		do(s)
		if len(s) == most {
			return
		}
		for i := range len(alphabet) {
			grow(s + alphabet[i:i+1])
		}
	}
	grow("")
}

// P1.1, P1.2: all short texts.
func TestShortTexts(t *testing.T) {
	all("a1 ;=\"\r\n\t%x<", 4, func(s string) { checkText(t, s) })
	all("a=/()[]*;\n ", 3, func(s string) { checkText(t, "a"+s) })
	all("019*a", 6, func(s string) { checkText(t, "a "+s) })
	all("xDb.-029fG", 4, func(s string) { checkText(t, "a %"+s) })
	all("01.-2", 5, func(s string) { checkText(t, "a %b"+s) })
	all("a\"; \xc3\xa9\x7f\n", 4, func(s string) { checkText(t, "a \""+s) })
}

// some answers a text of pieces, by a source that begins with the same number each time.
func some(r *rand.Rand, pieces []string, most int) string {
	var b strings.Builder
	for range r.Intn(most + 1) {
		b.WriteString(pieces[r.Intn(len(pieces))])
	}
	return b.String()
}

// right are pieces of which hardly a text has an error; wrong ones are among odd.
var (
	right = []string{"\na", "\r\nb-1 ", "\n ", "\r\n\t", " ", ";x\"<\n ", "=", "=/", "/", "(", ")", "[", "]", "*", " 2*3 ", " 12 ", "\"\"", "\"x;y\"", "%x41 ", "%d1.2.3 ", "%b0-11 ", "name "}
	odd   = append([]string{"12345", "4*3", "\"", "%", "-", ".", "0", "9", "f", "<", "$", "\x00", "\xff", "\r", "é", "%d256", "\n="}, right...)
)

// P1.1, P1.2: longer texts.
func TestLongerTexts(t *testing.T) {
	r := rand.New(rand.NewSource(1))
	for range 20000 {
		checkText(t, "a"+some(r, right, 30))
		checkText(t, "a"+some(r, odd, 10))
	}
}

// unplaced answers tokens without their places.
func unplaced(toks []api.Tok) []api.Tok {
	out := slices.Clone(toks)
	for i := range out {
		out[i].At = 0
	}
	return out
}

// P1.2: blanks, remarks and folded lines between two tokens change nothing but places.
func TestFilling(t *testing.T) {
	parts := []string{"a", "=", "2*3", "(", "%x1-2", "/", "\"x ; y\"", ")", "[", "%d1.2", "]", "*", "b-c"}
	plain := strings.Join(parts, " ")
	toks, _, err := Lex(plain)
	if err != api.OK || len(toks) != len(parts)+1 {
		t.Fatal(toks, err)
	}
	fillings := []string{"  ", "\t", "\n ", "\r\n\t", " ; x\n ", ";\"<$\r\n \t", "\n\n \n;\n ; y\r\n "}
	for _, f := range fillings {
		for i := 1; i < len(parts); i++ {
			s := strings.Join(parts[:i], " ") + f + strings.Join(parts[i:], " ")
			got, at, err := Lex(s)
			if err != api.OK || at != 0 || !slices.Equal(unplaced(got), unplaced(toks)) {
				t.Errorf("%q: %v, %d, %d", s, got, at, err)
			}
		}
		s := strings.Join(parts, f)
		if got, at, err := Lex(s); err != api.OK || at != 0 || !slices.Equal(unplaced(got), unplaced(toks)) {
			t.Errorf("%q: %v, %d, %d", s, got, at, err)
		}
	}
}

// P1.2: of a text, a byte 10 and another text, the tokens are those of the one, then those of the other.
func TestJoined(t *testing.T) {
	r := rand.New(rand.NewSource(2))
	texts := []string{"", ";", " ", "\n", "a", "a ;\r", "a\r\n", "a = b\n c\n", ";x\r\nb=/\"c\"", "a\n "}
	for range 50 {
		texts = append(texts, "r"+some(r, right, 12))
	}
	for _, one := range texts {
		for _, two := range texts {
			first, _, err1 := Lex(one)
			second, _, err2 := Lex(two)
			both, at, err := Lex(one + "\n" + two)
			if err1 != api.OK || err2 != api.OK {
				continue
			}
			if err != api.OK || at != 0 || !slices.Equal(unplaced(both), unplaced(append(first, second...))) {
				t.Fatalf("%q and %q: %v, %d, %d", one, two, both, at, err)
			}
		}
	}
}

func FuzzLex(f *testing.F) {
	f.Add("a = 1*3b ; x\r\n\t[ %x41.42 ] / \"c\"\n")
	f.Add("a %d1-255\nb =/ <c>")
	f.Fuzz(func(t *testing.T, s string) {
		if len(s) <= api.MaxGrammar {
			checkText(t, s)
		}
	})
}
