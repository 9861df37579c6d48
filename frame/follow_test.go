package frame

import (
	"math/rand"
	"slices"
	"strings"
	"testing"

	"franking/api"
)

// The chapter's words once more, as plainly as may be: of all that came at once.

func plainLine(most int, s string) api.Line {
	if len(s) > most {
		return api.Line{Text: s[:most], Long: true}
	}
	return api.Line{Text: s}
}

// plain answers the frame to which all of that came, and the lines that ended.
func plain(most int, all string) (api.Frame, []api.Line) {
	texts := strings.Split(all, "\r\n")
	var told []api.Line
	for _, s := range texts[:len(texts)-1] {
		told = append(told, plainLine(most, s))
	}
	left, waits := strings.CutSuffix(texts[len(texts)-1], "\r")
	last := plainLine(most, left)
	return api.Frame{Most: most, Held: last.Text, Over: last.Long, Cr: waits}, told
}

func plainRest(most int, all string) string {
	left, waits := strings.CutSuffix(all[strings.LastIndex("\r\n"+all, "\r\n"):], "\r")
	left = left[:min(most, len(left))]
	if waits {
		left += "\r"
	}
	return left
}

// wantAll holds, of pieces that come one behind the other, all that is told behind each of them.
func wantAll(t testing.TB, most int, pieces []string) {
	t.Helper()
	f := empty(t, most)
	all, many := "", 0
	for _, p := range pieces {
		g, l := Push(f, []byte(p))
		f, all = g, all+p
		left, told := plain(most, all)
		if f != left || !slices.Equal(l, told[many:]) || Rest(f) != plainRest(most, all) {
			t.Fatalf("most %d, %q: %s, %s, rest %q; want %s, %s, rest %q", most, pieces, shown(f), shownLines(l), Rest(f), shown(left), shownLines(told[many:]), plainRest(most, all))
		}
		many = len(told)
	}
}

// cut answers the pieces of a text that is cut behind the bytes whose bits are set.
func cut(s string, bits int) []string {
	var pieces []string
	from := 0
	for i := 1; i < len(s); i++ {
		if bits>>(i-1)&1 > 0 {
			pieces, from = append(pieces, s[from:i]), i
		}
	}
	return append(pieces, s[from:])
}

// texts answers all texts of some bytes that are so long.
func texts(of string, long int) []string {
	l := []string{""}
	for range long {
		var next []string
		for _, s := range l {
			for i := range len(of) {
				next = append(next, s+of[i:i+1])
			}
		}
		l = next
	}
	return l
}

func TestAllCuts(t *testing.T) {
	looked := 0
	for long := range 7 {
		for _, s := range texts("\r\na", long) {
			for bits := range 1 << max(0, long-1) {
				for most := 1; most <= 3; most++ {
					wantAll(t, most, cut(s, bits))
					looked++
				}
			}
		}
	}
	for _, s := range texts("\r\nab", 5) {
		for bits := range 16 {
			wantAll(t, 2, cut(s, bits))
		}
	}
	if looked < 80000 {
		t.Errorf("hardly anything was looked at: %d", looked)
	}
}

// byChance answers a text in which lines end, and in which lone bytes of their ends stand about.
func byChance(r *rand.Rand, long int) string {
	var b strings.Builder
	often := 2 + r.Intn(40)
	for b.Len() < long {
		switch r.Intn(often) {
		case 0:
			b.WriteString("\r\n")
		case 1:
			b.WriteString(strings.Repeat("\r", r.Intn(4)))
			b.WriteString(strings.Repeat("\n", r.Intn(3)))
		default:
			b.WriteByte(byte(r.Intn(256)))
		}
	}
	return b.String()
}

// cutByChance answers the pieces of a text; some of them may be empty.
func cutByChance(r *rand.Rand, s string) []string {
	var pieces []string
	great := 1 + r.Intn(30)
	for len(s) > 0 {
		n := min(r.Intn(great+1), len(s))
		pieces = append(pieces, s[:n])
		s = s[n:]
	}
	return pieces
}

func TestByChance(t *testing.T) {
	r := rand.New(rand.NewSource(12))
	ended, tooLong, waited := 0, 0, 0
	for range 3000 {
		most := 1 + r.Intn(40)
		s := byChance(r, r.Intn(400))
		wantAll(t, most, cutByChance(r, s))
		left, told := plain(most, s)
		ended += len(told)
		for _, l := range told {
			if l.Long {
				tooLong++
			}
		}
		if left.Cr {
			waited++
		}
	}
	if ended < 20000 || tooLong < 2000 || tooLong*10 > ended*9 || waited < 50 {
		t.Errorf("hardly anything was looked at: %d, %d, %d", ended, tooLong, waited)
	}
}

// told answers all lines of pieces, and the frame behind the last one.
func told(t testing.TB, most int, pieces []string) (api.Frame, []api.Line) {
	t.Helper()
	f := empty(t, most)
	var all []api.Line
	for _, p := range pieces {
		g, l := Push(f, []byte(p))
		f, all = g, append(all, l...)
	}
	return f, all
}

// TestCutsByChance holds that the same is told however long texts come in pieces.
func TestCutsByChance(t *testing.T) {
	r := rand.New(rand.NewSource(13))
	looked := 0
	for range 100 {
		most := 1 + r.Intn(2000)
		s := byChance(r, 20000)
		left, all := told(t, most, []string{s})
		for range 5 {
			pieces := cutByChance(r, s)
			f, l := told(t, most, pieces)
			if f != left || !slices.Equal(l, all) {
				t.Fatalf("most %d, %q: %s, %s; want %s, %s", most, pieces, shown(f), shownLines(l), shown(left), shownLines(all))
			}
			looked += len(pieces) * len(all)
		}
	}
	if looked < 1000000 {
		t.Errorf("hardly anything was looked at: %d", looked)
	}
}

// TestAsTheyWere holds that lines, each with its end behind it, are told as they were, if they are not longer than may be.
func TestAsTheyWere(t *testing.T) {
	r := rand.New(rand.NewSource(14))
	looked := 0
	for range 500 {
		most := 1 + r.Intn(2000)
		var want []api.Line
		s := ""
		for range r.Intn(20) {
			line := byChance(r, r.Intn(2*most))
			for strings.Contains(line, "\r\n") {
				line = strings.ReplaceAll(line, "\r\n", "")
			}
			line = line[:min(most, len(line))]
			want = append(want, api.Line{Text: line})
			s += line + "\r\n"
		}
		f, l := told(t, most, cutByChance(r, s))
		if f != empty(t, most) || !slices.Equal(l, want) {
			t.Fatalf("most %d, %q: %s, %s; want %s", most, s, shown(f), shownLines(l), shownLines(want))
		}
		looked += len(want)
	}
	if looked < 3000 {
		t.Errorf("hardly anything was looked at: %d", looked)
	}
}

// wantMore holds that a line is another one, but with no more of it than may be; which it is as it stands if it is not too long.
func wantMore(t *testing.T, most int, few, more api.Line) {
	t.Helper()
	if want := (api.Line{Text: more.Text[:min(most, len(more.Text))], Long: more.Long || len(more.Text) > most}); few != want {
		t.Fatalf("most %d: %s; want %s", most, shownLines([]api.Line{few}), shownLines([]api.Line{want}))
	}
}

// TestGreaterMost holds that a greater most tells the same lines, with more of them.
func TestGreaterMost(t *testing.T) {
	r := rand.New(rand.NewSource(15))
	looked, cutOff := 0, 0
	for range 1000 {
		s := byChance(r, r.Intn(2000))
		small := 1 + r.Intn(60)
		great := small + 1 + r.Intn(60)
		f, few := told(t, small, cutByChance(r, s))
		g, more := told(t, great, cutByChance(r, s))
		if len(few) != len(more) || f.Cr != g.Cr {
			t.Fatalf("%q: %s, %s; %s, %s", s, shown(f), shownLines(few), shown(g), shownLines(more))
		}
		for i := range few {
			wantMore(t, small, few[i], more[i])
			looked++
			if few[i].Text != more[i].Text {
				cutOff++
			}
		}
		wantMore(t, small, api.Line{Text: f.Held, Long: f.Over}, api.Line{Text: g.Held, Long: g.Over})
	}
	if looked < 20000 || cutOff < 1000 {
		t.Errorf("hardly anything was looked at: %d, %d", looked, cutOff)
	}
}

func FuzzPush(f *testing.F) {
	f.Add(uint16(3), uint16(1), uint16(2), "ab\r\ncdefgh\r\n\r\r\n")
	f.Fuzz(func(t *testing.T, most, first, second uint16, s string) {
		a := min(int(first), len(s))
		b := a + min(int(second), len(s)-a)
		wantAll(t, 1+int(most)%api.MaxLine, []string{s[:a], s[a:b], s[b:]})
	})
}
