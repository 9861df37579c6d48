package dots

import (
	"math/rand"
	"strings"
	"testing"

	"franking/api"
	"franking/frame"
)

// The chapter's words once more, as plainly as may be: a line begins behind 13 10, also behind those that are put ahead of all here.

// ended answers a body with a line's end behind, if it had none.
func ended(body string) string {
	if body == "" || strings.HasSuffix(body, "\r\n") {
		return body
	}
	return body + "\r\n"
}

func plainSent(body string) string {
	return strings.ReplaceAll("\r\n"+ended(body), "\r\n.", "\r\n..")[2:] + ".\r\n"
}

func plainRead(s string) (string, int, bool) {
	lines, _, is := strings.Cut("\r\n"+s, "\r\n.\r\n")
	if !is {
		return "", 0, false
	}
	return strings.ReplaceAll(lines+"\r\n", "\r\n.", "\r\n")[2:], len(lines) + 3, true
}

// wantPlain holds what is sent of a text, and what is read of it, against the plain reading.
func wantPlain(t testing.TB, s string) {
	t.Helper()
	wantSent(t, s, plainSent(s))
	if body, taken, is := plainRead(s); is {
		wantRead(t, s, body, taken)
	} else {
		wantNone(t, s)
	}
}

// wantBack holds that what is sent of a body is read as it was, whatever comes behind it.
func wantBack(t testing.TB, body string, behind ...string) {
	t.Helper()
	sent := string(Encode([]byte(body)))
	for _, more := range behind {
		wantRead(t, sent+more, ended(body), len(sent))
	}
}

// wantNoBeginnings holds that no beginning of what is sent of a body is a body's.
func wantNoBeginnings(t testing.TB, body string) {
	t.Helper()
	sent := string(Encode([]byte(body)))
	for i := range sent {
		wantNone(t, sent[:i])
	}
}

// wantAgain holds that what is read, sent again, is read as the same; it tells whether anything is read.
func wantAgain(t testing.TB, s string) bool {
	t.Helper()
	body, _, is := Decode([]byte(s))
	if is {
		sent := Encode(body)
		wantRead(t, string(sent), string(body), len(sent))
	}
	return is
}

// framed answers the lines of a text, and what is left, which layer 12 tells of pieces of some bytes.
func framed(t testing.TB, s string, piece int) ([]api.Line, string) {
	t.Helper()
	f, err := frame.New(api.MaxLine)
	if err != api.OK {
		t.Fatal(err)
	}
	var all []api.Line
	for len(s) > 0 {
		n := min(piece, len(s))
		g, l := frame.Push(f, []byte(s[:n]))
		f, all, s = g, append(all, l...), s[n:]
	}
	return all, frame.Rest(f)
}

// wantFramed holds that a text is sent, and read, as it is line by line.
func wantFramed(t testing.TB, s string, piece int) {
	t.Helper()
	lines, left := framed(t, s, piece)
	sent, read, taken := "", "", 0
	is := false
	for _, l := range lines {
		if l.Long {
			t.Fatalf("%s: a line is too long to be held", short(s))
		}
		sent += Stuff(l.Text) + "\r\n"
		if is {
			continue
		}
		taken += len(l.Text) + 2
		rest, isEnd := Unstuff(l.Text)
		if is = isEnd; !isEnd {
			read += rest + "\r\n"
		}
	}
	if left != "" {
		sent += Stuff(left) + "\r\n"
	}
	wantSent(t, s, sent+".\r\n")
	if is {
		wantRead(t, s, read, taken)
	} else {
		wantNone(t, s)
	}
}

// texts answers all texts of some bytes that are so long.
func texts(of string, long int) []string {
	l := []string{""}
	for range long {
		var next []string
		for _, s := range l {
			for i := range len(of) {
				next = append(next, s+of[i:i+1])
			}
		}
		l = next
	}
	return l
}

// TestAllShort holds all promises of all short texts.
func TestAllShort(t *testing.T) {
	looked, read := 0, 0
	for long := range 8 {
		for _, s := range texts("\r\n.a", long) {
			wantPlain(t, s)
			wantFramed(t, s, 3)
			wantBack(t, s, "", ".\r\n")
			wantNoBeginnings(t, s)
			if wantAgain(t, s) {
				read++
			}
			looked++
		}
	}
	if looked < 20000 || read < 300 {
		t.Errorf("hardly anything was looked at: %d, %d", looked, read)
	}
}

// TestAllLines holds all promises of all texts of some pieces, most of which are lines of their own.
func TestAllLines(t *testing.T) {
	pieces := []string{".\r\n", "..\r\n", "a\r\n", ".a\r\n", "\r\n", "\r", "."}
	looked, read := 0, 0
	l := []string{""}
	for range 5 {
		var next []string
		for _, s := range l {
			for _, p := range pieces {
				next = append(next, s+p)
			}
		}
		for _, s := range next {
			wantPlain(t, s)
			wantFramed(t, s, 5)
			if wantAgain(t, s) {
				read++
			}
			looked++
		}
		l = next
	}
	if looked < 19000 || read < 5000 {
		t.Errorf("hardly anything was looked at: %d, %d", looked, read)
	}
}

// TestLines holds that each short text, taken for one line, is stuffed and unstuffed by its first byte alone, and that one dot alone is the end.
func TestLines(t *testing.T) {
	for long := range 7 {
		for _, s := range texts("\r\n.a", long) {
			stuffed, rest := s, s
			if long > 0 && s[0] == '.' {
				stuffed, rest = "."+s, s[1:]
			}
			wantStuffed(t, s, stuffed)
			wantUnstuffed(t, stuffed, s, false)
			wantUnstuffed(t, s, rest, s == ".")
		}
	}
}

// byChance answers a text of lines, many of which begin with dots, and in which lone bytes of their ends stand about.
func byChance(r *rand.Rand, long int) string {
	var b strings.Builder
	often := 4 + r.Intn(40)
	for b.Len() < long {
		switch r.Intn(often) {
		case 0:
			b.WriteString("\r\n")
		case 1:
			b.WriteString("\r\n" + strings.Repeat(".", 1+r.Intn(3)))
		case 2:
			b.WriteString(strings.Repeat("\r", r.Intn(3)))
			b.WriteString(strings.Repeat("\n", r.Intn(3)))
		case 3:
			b.WriteString(strings.Repeat(".", r.Intn(4)))
		default:
			b.WriteByte(byte(r.Intn(256)))
		}
	}
	return b.String()
}

func TestByChance(t *testing.T) {
	r := rand.New(rand.NewSource(13))
	read, dotted := 0, 0
	for range 3000 {
		s := byChance(r, r.Intn(600))
		wantPlain(t, s)
		wantFramed(t, s, 1+r.Intn(50))
		wantBack(t, s, "", byChance(r, r.Intn(20)), "\n", "\r\n", ".", ".\r\n")
		if wantAgain(t, s) {
			read++
		}
		dotted += strings.Count(s, "\r\n.")
		// What is sent, with bytes put to others, is as good as bytes that nobody sent.
		sent := Encode([]byte(s))
		sent[r.Intn(len(sent))] = "\r\n.a"[r.Intn(4)]
		wantPlain(t, string(sent))
		wantFramed(t, string(sent), 1+r.Intn(50))
		wantAgain(t, string(sent))
	}
	if read < 500 || dotted < 10000 {
		t.Errorf("hardly anything was looked at: %d, %d", read, dotted)
	}
}

func TestBeginningsByChance(t *testing.T) {
	r := rand.New(rand.NewSource(14))
	for range 300 {
		wantNoBeginnings(t, byChance(r, r.Intn(400)))
	}
}

// TestLongest holds that lines as long as layer 12 keeps them, a dot ahead of them among it, are the same by either way.
func TestLongest(t *testing.T) {
	long := strings.Repeat("a", api.MaxLine)
	for _, s := range []string{long, long[1:], "." + long[2:], long + "\r\n" + long, "." + long[2:] + "\r\n" + long + "\r\n.\r\n" + long} {
		wantFramed(t, s, 700)
		wantPlain(t, s)
		wantBack(t, s, "", "b")
		wantFramed(t, string(Encode([]byte(s))), 999)
	}
}

func FuzzDots(f *testing.F) {
	f.Add("a\r\n.b\r\n.\r\n..c\r", "\r\n")
	f.Fuzz(func(t *testing.T, s, more string) {
		wantPlain(t, s)
		wantBack(t, s, "", more)
		wantNoBeginnings(t, s)
		wantAgain(t, s)
		if len(s) <= api.MaxLine {
			wantFramed(t, s, 1+len(more))
		}
	})
}
