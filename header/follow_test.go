package header

import (
	"math/rand"
	"regexp"
	"slices"
	"strconv"
	"strings"
	"testing"

	"franking/api"
	"franking/path"
)

// What follows is a second, plain reading of the chapter: patterns of lines, and the words of each promise one by one.

var (
	beginsField = regexp.MustCompile(`^([!-9;-~]+):`)
	blankEnds   = regexp.MustCompile(`^[ \t]+|[ \t]+$`)
	rightName   = regexp.MustCompile(`^[!-9;-~]+$`)
)

// plainLines answers the lines of the header, where each begins, and where the text does.
func plainLines(body string) (lines []string, places []int, text int) {
	at := 0
	for _, line := range strings.SplitAfter(body, "\r\n") {
		if line == "\r\n" {
			return lines, places, at + 2
		}
		if line != "" {
			lines, places = append(lines, strings.TrimSuffix(line, "\r\n")), append(places, at)
		}
		at += len(line)
	}
	return lines, places, len(body)
}

// plainSplit answers the fields up to the first wrong line, and where that is, or the text, and whether none is wrong.
func plainSplit(body string) ([]api.Field, int, bool) {
	var l []api.Field
	lines, places, text := plainLines(body)
	wrong := slices.IndexFunc(lines, func(line string) bool {
		if of := beginsField.FindStringSubmatch(line); of != nil {
			l = append(l, field(of[1], line[len(of[0]):]))
			return false
		}
		goesOn := len(l) > 0 && (line[0] == ' ' || line[0] == '\t')
		if goesOn {
			l[len(l)-1].Text += line
		}
		return !goesOn
	})
	for i := range l {
		l[i].Text = blankEnds.ReplaceAllString(l[i].Text, "")
	}
	if wrong >= 0 {
		return l, places[wrong], false
	}
	return l, text, true
}

// plainRight tells whether a field is right.
func plainRight(f api.Field) bool {
	return rightName.MatchString(f.Name) && !strings.ContainsAny(f.Text, "\r\n") && !blankEnds.MatchString(f.Text)
}

// plainFold answers a line, folded, with its end behind.
func plainFold(line string) string {
	folded := ""
	for len(line) > 78 {
		cut := 0
		for at := 1; at < len(line); at++ {
			if (line[at] == ' ' || line[at] == '\t') && (at <= 78 || cut == 0) {
				cut = at
			}
		}
		if cut == 0 {
			break
		}
		folded += line[:cut] + "\r\n"
		line = line[cut:]
	}
	return folded + line + "\r\n"
}

// plainPrint answers fields, printed.
func plainPrint(l ...api.Field) string {
	all := ""
	for _, f := range l {
		all += plainFold(f.Name + ":" + map[bool]string{false: " " + f.Text}[f.Text == ""])
	}
	return all
}

// wantPlain holds what is told of a body against the plain reading, and answers how many fields it has, and whether no line is wrong.
func wantPlain(t testing.TB, body string) (int, bool) {
	t.Helper()
	l, at, is := plainSplit(body)
	if is {
		wantSplit(t, body, at, l...)
	} else {
		wantWrong(t, body, at)
		wantHops(t, body, hopsOf(l))
	}
	for i, f := range l {
		first := slices.IndexFunc(l, func(g api.Field) bool { return strings.ToLower(g.Name) == strings.ToLower(f.Name) })
		wantGot(t, l, f.Name, l[first].Text)
		wantGot(t, l[i:], strings.ToUpper(f.Name), f.Text)
		if hasEnd := strings.ContainsAny(f.Text, "\r\n"); Right(f) == hasEnd {
			t.Errorf("Right of %q, which was read: %t", f, !hasEnd)
		}
	}
	return len(l), is
}

// wantPlainPrint holds what is printed of fields against the plain reading, that it is read as they were, with any text behind, and answers whether they are right.
func wantPlainPrint(t testing.TB, l []api.Field, behind string) bool {
	t.Helper()
	wrong := slices.DeleteFunc(slices.Clone(l), plainRight)
	if len(wrong) > 0 {
		wantNotRight(t, wrong...)
		if s, err := Print(l); len(s) > 0 || err != api.ErrHeader {
			t.Errorf("Print of %q: %s, %d", l, short(string(s)), err)
		}
		return false
	}
	want := plainPrint(l...)
	wantPrinted(t, want, l...)
	wantSplit(t, want+"\r\n"+behind, len(want)+2, l...)
	if len(l) > 0 {
		wantAdded(t, l[0], behind, plainPrint(l[0]))
	}
	return true
}

// texts goes through all texts of some bytes, up to so many.
func texts(of string, long int, each func(s string)) {
	each("")
	for level := []string{""}; long > 0; long-- {
		var next []string
		for _, s := range level {
			for i := range len(of) {
				next = append(next, s+of[i:i+1])
				each(s + of[i:i+1])
			}
		}
		level = next
	}
}

// P17.1, P17.2: all short bodies of the bytes that matter most.
func TestAllShort(t *testing.T) {
	for _, c := range []struct {
		some          string
		long          int
		ahead, behind string
		least         int
	}{
		{"a: \r\n", 7, "", "", 4500},
		{"a:\t\r\n", 6, "B:\r\n", "", 5000},
		{"a: \r\n", 6, "B:c\r", "", 14000},
		{" \t\r\nx", 7, "A:", "", 80000},
		{" \r\nx:", 6, "Received: a\r\n", "\r\nB:", 5000},
		{"a: \r\n", 6, "", "\r\n\r\nB: c\r\n", 900},
		{":!~ \x7f", 6, "", ":", 2500},
		{"rRd:e", 5, "", "eceived: x\r\n", 3000},
		{"\n\r \t", 7, "A: b\r\n", "C: d", 11000},
	} {
		fields := 0
		texts(c.some, c.long, func(s string) {
			if t.Failed() {
				return
			}
			if many, is := wantPlain(t, c.ahead+s+c.behind); is && many > 0 {
				fields++
			}
		})
		if fields < c.least {
			t.Fatalf("of %q behind %q: only %d have fields", c.some, c.ahead, fields)
		}
	}
}

// P17.3, P17.5: all short names, and texts, of the bytes that matter most.
func TestAllShortFields(t *testing.T) {
	many := map[bool]int{}
	texts("a: \t\r\n\x7f!", 4, func(s string) {
		many[wantPlainPrint(t, []api.Field{field(s, "b")}, s)]++
		many[wantPlainPrint(t, []api.Field{field("A", s)}, s)]++
		many[wantPlainPrint(t, []api.Field{field("B", "c"), field("A"+s, s)}, s)]++
	})
	if many[true] < 700 || many[false] < 1500 {
		t.Error("hardly anything was looked at:", many)
	}
	// And around the place where a line is cut.
	folded := 0
	for _, ahead := range []int{70, 71, 72, 73, 74, 75} {
		for _, behind := range []int{0, 1, 2, 74, 75, 76, 77, 78} {
			texts("a \t", 6, func(s string) {
				f := field("A", xs(ahead)+s+xs(behind))
				if plainRight(f) && wantPlainPrint(t, []api.Field{f}, "") && len(plainPrint(f)) > len(f.Text)+5 {
					folded++
				}
			})
		}
	}
	if folded < 40000 {
		t.Error("hardly anything was folded:", folded)
	}
}

// one answers one of some texts by chance.
func one(r *rand.Rand, of ...string) string { return of[r.Intn(len(of))] }

// chanceText answers a text by chance: words and blanks, of which some are long.
func chanceText(r *rand.Rand) string {
	var b strings.Builder
	longest := 1 + r.Intn(1+r.Intn(160))
	for range r.Intn(1 + r.Intn(60)) {
		b.WriteString(xs(r.Intn(1 + longest)))
		b.WriteString(one(r, " ", " ", " ", "\t", "  ", ":", "\x00", string([]byte{byte(r.Intn(256))}), often(" ", r.Intn(4)), often("\t", r.Intn(90))))
	}
	return b.String()
}

// chanceName answers a field's name by chance, nearly always one that may be.
func chanceName(r *rand.Rand) string {
	return one(r, "A", "a", "Subject", "SUBJECT", "Received", "received", "RECEIVED", "X-y!~", "To", "to", xs(1+r.Intn(100)), string([]byte{byte(r.Intn(256))}), string([]byte{'A', byte(r.Intn(256))}))
}

// chanceField answers a field by chance, most of them right.
func chanceField(r *rand.Rand) api.Field {
	f := field(chanceName(r), chanceText(r))
	if r.Intn(8) > 0 {
		f.Text = strings.NewReplacer("\r", "", "\n", "").Replace(f.Text)
		f.Text = blankEnds.ReplaceAllString(f.Text, "")
	}
	return f
}

// chanceBody answers a body by chance: fields that are folded anyhow, and a text.
func chanceBody(r *rand.Rand) string {
	var b strings.Builder
	for range r.Intn(6) {
		b.WriteString(chanceName(r) + ":" + chanceText(r))
		for range r.Intn(3) {
			b.WriteString("\r\n" + one(r, " ", "\t", " \t", "  ", " ", "") + chanceText(r))
		}
		b.WriteString("\r\n")
	}
	return b.String() + one(r, "", "\r\n", "\r\n\r\n", "\r\ntext\r\n", "\r\nA: b\r\n", "no field", "\r", "\n")
}

// spoilt answers a text with a byte more, less, or another one, perhaps.
func spoilt(r *rand.Rand, s string) string {
	at, c := r.Intn(len(s)+1), one(r, " ", "\t", "\r", "\n", "\r\n", "\r\n\r\n", ":", string([]byte{byte(r.Intn(256))}))
	switch r.Intn(6) {
	case 0:
		return s[:at] + c + s[at:]
	case 1:
		return s[:at] + s[min(at+1, len(s)):]
	case 2:
		return s[:at] + c + s[min(at+1, len(s)):]
	}
	return s
}

// P17.1, P17.2, P17.5: bodies by chance, of which enough have fields, and enough a wrong line.
func TestByChance(t *testing.T) {
	r := rand.New(rand.NewSource(17))
	right, wrong, hops := 0, 0, 0
	for range 20000 {
		body := spoilt(r, chanceBody(r))
		many, is := wantPlain(t, body)
		switch {
		case !is:
			wrong++
		case many > 0:
			right++
		}
		if n := Hops([]byte(body)); n > 0 {
			hops++
		}
		if body == "" || body[0] != ' ' && body[0] != '\t' {
			f, err := Trace(one(r, "", "x.y", "[1.2.3.4]"), "b.c", r.Intn(100), r.Int()>>23)
			if err != api.OK {
				t.Fatal(f, err)
			}
			wantHop(t, f, body)
		}
		if t.Failed() {
			return
		}
	}
	if right < 4000 || wrong < 4000 || hops < 4000 {
		t.Error("hardly anything was looked at:", right, wrong, hops)
	}
}

// P17.3, P17.5: fields by chance, of which enough are right, enough are folded, and enough are not right.
func TestBackByChance(t *testing.T) {
	r := rand.New(rand.NewSource(18))
	right, wrong, folded := 0, 0, 0
	for range 6000 {
		var l []api.Field
		for range r.Intn(6) {
			l = append(l, chanceField(r))
		}
		if !wantPlainPrint(t, l, chanceBody(r)) {
			wrong++
			continue
		}
		right++
		if strings.Count(plainPrint(l...), "\r\n") > len(l) {
			folded++
		}
		if t.Failed() {
			return
		}
	}
	if right < 2000 || wrong < 1000 || folded < 1000 {
		t.Error("hardly anything was looked at:", right, wrong, folded)
	}
}

// P17.4: traces by chance, of parts of which enough may be, and enough may not.
func TestTraceByChance(t *testing.T) {
	r := rand.New(rand.NewSource(19))
	many := map[bool]int{}
	for range 30000 {
		from := spoilt(r, one(r, "", "x", "a.b-c", "[1.2.3.4]", "[IPv6:1::2]", "X.Y", "a"+often(".b", r.Intn(140))))
		by := spoilt(r, one(r, "b", "mx.org", "M-1.Org", "[1.2.3.4]", "", often("c", 60+r.Intn(5))))
		id, now := r.Intn(1<<41), r.Intn(1<<40+1)
		if r.Intn(4) > 0 {
			id = r.Intn(1 << 20)
		}
		bracket := len(from) > 2 && from[0] == '[' && from[len(from)-1] == ']' && path.Literal(from[1:len(from)-1])
		right := path.Domain(by) && (from == "" || path.Domain(from) || bracket) && id <= 1<<40
		many[right]++
		if !right {
			wantNoTrace(t, from, by, id, now)
			continue
		}
		whom := map[bool]string{false: "from " + from + " "}[from == ""]
		wantTrace(t, from, by, id, now, whom+"by "+by+" id "+strconv.Itoa(id)+"; "+strconv.Itoa(now))
	}
	if many[true] < 5000 || many[false] < 5000 {
		t.Error("hardly anything was looked at:", many)
	}
}

func FuzzHeader(f *testing.F) {
	f.Add("A: b\r\n c\r\nReceived:\r\n\r\nx", "A", "b c", 7)
	f.Add(" a: b", "Subject", xs(75)+"  "+xs(90), 0)
	f.Add("A: b\r\nc d", "", "\r", -1)
	f.Fuzz(func(t *testing.T, body, name, text string, id int) {
		if len(body)+len(name)+len(text) > 2000 {
			return
		}
		wantPlain(t, body)
		wantPlainPrint(t, []api.Field{field(name, text)}, body)
		wantPlainPrint(t, []api.Field{field("A", text), field(name, "b")}, body)
		if trace, err := Trace(text, name, id, id/2); err == api.OK && (body == "" || body[0] != ' ' && body[0] != '\t') {
			wantHop(t, trace, body)
		}
	})
}
