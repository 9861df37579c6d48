package scan

import (
	"math"
	"slices"
	"strconv"
	"strings"
	"testing"

	"franking/api"
	"franking/table"
)

// much are the greatest caps that may be, little the smallest ones.
var (
	much   = api.Caps{Tree: api.MaxRe, Nfa: api.MaxNfa, Dfa: api.MaxDfa}
	little = api.Caps{Tree: 1, Nfa: 1, Dfa: 1}
)

// example is the grammar of the chapter's examples.
const example = "word = 1*%x61-7A\nnum = 1*%x30-39\nif = %x69.66\nsp = \" \""

// list answers the words of a text.
func list(s string) []string { return strings.Fields(s) }

func faultOf(err api.Errno) api.Fault { return api.Fault{Err: err} }

func shownFault(f api.Fault) string {
	return strconv.Itoa(int(f.Err)) + " at " + strconv.Itoa(f.At) + " with " + strconv.Quote(f.Name)
}

// shown answers a table as a text.
func shown(t api.Table) string {
	out := strconv.Itoa(t.C.Many) + " classes, many " + strconv.Itoa(t.D.Many)
	for i, l := range [][]int{t.D.Next, t.D.Tags} {
		out += []string{"; next", "; tags"}[i]
		for i, n := range l {
			if i > 100 {
				out += " and so on, " + strconv.Itoa(len(l)) + " in all"
				break
			}
			out += " " + strconv.Itoa(n)
		}
	}
	return out + "; " + strings.Join(t.Names, " ")
}

func same(a, b api.Table) bool {
	return a.C == b.C && a.D.Many == b.D.Many && slices.Equal(a.D.Next, b.D.Next) && slices.Equal(a.D.Tags, b.D.Tags) && slices.Equal(a.Names, b.Names)
}

func isNothing(t api.Table) bool { return same(t, api.Table{}) }

// short answers the beginning of a text that is long.
func short(s string) string {
	if len(s) > 300 {
		return s[:300] + " and so on, " + strconv.Itoa(len(s)) + " in all"
	}
	return s
}

// wantFault holds that of a text, names and caps there is no table, but that fault.
func wantFault(t testing.TB, s string, names []string, caps api.Caps, want api.Fault) {
	t.Helper()
	if x, f := Make(s, names, caps); f != want || !isNothing(x) {
		t.Errorf("%q: %q, %v: %s, %s; want %s", short(s), short(strings.Join(names, " ")), caps, shownFault(f), shown(x), shownFault(want))
	}
}

// tableOf answers the table of a text, of some names, which is right.
func tableOf(t testing.TB, s string, names ...string) api.Table {
	t.Helper()
	x, f := Make(s, names, much)
	if f != (api.Fault{}) || !table.Right(x) || !slices.Equal(x.Names, names) {
		t.Fatalf("%q: %q: %s, %s", short(s), short(strings.Join(names, " ")), shownFault(f), shown(x))
	}
	return x
}

// told answers tokens as a text: of each its tag's name and its bytes, and behind all what is left.
func told(x api.Table, s string) string {
	l, end := Tokens(x, s)
	out := ""
	at := 0
	for _, p := range l {
		if p.At != at {
			return "a token begins at " + strconv.Itoa(p.At) + ", not at " + strconv.Itoa(at)
		}
		at += p.Len
		out += x.Names[p.Tag] + ":" + s[p.At:at] + "|"
	}
	if at != end {
		return "the tokens end at " + strconv.Itoa(at) + ", not at " + strconv.Itoa(end)
	}
	return out + s[end:]
}

// wantTold holds what tokens of a text are.
func wantTold(t testing.TB, x api.Table, s, want string) {
	t.Helper()
	if got := told(x, s); got != want {
		t.Errorf("%s: %q: %q; want %q", shown(x), short(s), short(got), short(want))
	}
}

// wantWhole holds that all of a text is of that name; or of none, if that is "".
func wantWhole(t testing.TB, x api.Table, s, name string) {
	t.Helper()
	tag := slices.Index(x.Names, name)
	if got, ok := Whole(x, s); ok != (tag >= 0) || got != max(tag, 0) {
		t.Errorf("%s: %q: %d, %v; want %d", shown(x), short(s), got, ok, tag)
	}
}

// P11.1, P11.2: the chapter's examples.
func TestExamples(t *testing.T) {
	x := tableOf(t, example, list("if word num sp")...)
	l, end := Tokens(x, "if iffy 12")
	if want := []api.Piece{{Tag: 0, At: 0, Len: 2}, {Tag: 3, At: 2, Len: 1}, {Tag: 1, At: 3, Len: 4}, {Tag: 3, At: 7, Len: 1}, {Tag: 2, At: 8, Len: 2}}; !slices.Equal(l, want) || end != 10 {
		t.Error(l, end)
	}
	wantTold(t, x, "if iffy 12", "if:if|sp: |word:iffy|sp: |num:12|")
	if l, end := Tokens(x, "a-b"); !slices.Equal(l, []api.Piece{{Tag: 1, At: 0, Len: 1}}) || end != 1 {
		t.Error(l, end)
	}
	if tag, ok := Whole(x, "iffy"); tag != 1 || !ok {
		t.Error(tag, ok)
	}
	if tag, ok := Whole(x, "if "); tag != 0 || ok {
		t.Error(tag, ok)
	}
	wantTold(t, tableOf(t, example, list("word if num sp")...), "if iffy 12", "word:if|sp: |word:iffy|sp: |num:12|")
	wantFault(t, "a = b", list("a"), much, api.Fault{Err: api.ErrNone, Name: "b"})
	wantFault(t, "a = \"c\"", list("x"), much, api.Fault{Err: api.ErrNone, Name: "x"})
	wantFault(t, example, list("if word num sp"), little, api.Fault{Err: api.ErrCap, Name: "if"})
}

// numbered answers so many names, each another one.
func numbered(many int) []string {
	l := make([]string, many)
	for i := range l {
		l[i] = "n" + strconv.Itoa(i)
	}
	return l
}

// rulesOf answers a grammar of rules of some names, each of which derives its name in brackets.
func rulesOf(names []string) string {
	var lines []string
	for _, name := range names {
		lines = append(lines, name+" = \"<"+name+">\"")
	}
	return strings.Join(lines, "\n")
}

// P11.1: no name, one, as many as may be, and one more.
func TestManyNames(t *testing.T) {
	for _, many := range []int{1, 2, 3, 199, 200} {
		names := numbered(many)
		x := tableOf(t, rulesOf(names), names...)
		last := names[many-1]
		wantTold(t, x, "<n0><"+last+"><N0>", "n0:<n0>|"+last+":<"+last+">|n0:<N0>|")
		wantWhole(t, x, "<"+last+">", last)
		wantWhole(t, x, "<n"+strconv.Itoa(many)+">", "")
		wantWhole(t, x, "", "")
	}
	for _, many := range []int{0, 201, 202, 1000} {
		wantFault(t, rulesOf(numbered(many)), numbered(many), much, faultOf(api.ErrArg))
		wantFault(t, "$", numbered(many), little, faultOf(api.ErrArg))
	}
	wantFault(t, example, nil, much, faultOf(api.ErrArg))
	wantFault(t, "", nil, little, faultOf(api.ErrArg))
}

// P11.1: names that are none, beside others that are: whatever else there is, that is told.
func TestWrongNames(t *testing.T) {
	long := strings.Repeat("a", 65)
	wrong := []string{"", "A", "aB", "Word", "0", "0a", "9", "-", "-a", " ", "a ", " a", "a b", "a_b", "a.b", "a=", "\x00", "a\x00", "a\n", "\xe4", "a\xe4", "\u00e4", "{", "a{", "`", "a`", "a/", "a:", "a@", "a[", long, long + long, strings.Repeat("a-9", 22), strings.Repeat("a", 1<<16)}
	for _, name := range wrong {
		for _, names := range [][]string{{name}, {name, "num"}, {"word", name}, {"word", name, "num"}, {"none", name}} {
			wantFault(t, example, names, much, faultOf(api.ErrArg))
			wantFault(t, example+"\n"+name+" = \"x\"", names, much, faultOf(api.ErrArg))
			wantFault(t, "$", names, little, faultOf(api.ErrArg))
		}
	}
	for _, name := range []string{"a", "z", "az", "a0", "a9", "a-", "z-9-a--", "a" + strings.Repeat("9", 63), long[1:]} {
		x := tableOf(t, name+" = \"x\"", name)
		wantTold(t, x, "xXy", name+":x|"+name+":X|y")
		// The rule's name may be written otherwise.
		wantTold(t, tableOf(t, strings.ToUpper(name)+" = \"x\"", name), "x", name+":x|")
		wantFault(t, example, []string{name}, much, api.Fault{Err: api.ErrNone, Name: name})
	}
	// Of a rule itself there is no such limit.
	wantTold(t, tableOf(t, "a = "+long+"\n"+long+" = \"x\"", "a"), "xx", "a:x|a:x|")
	wantFault(t, long+" = \"x\"", []string{long}, much, faultOf(api.ErrArg))
}

// P11.1: names that are there twice.
func TestNamesTwice(t *testing.T) {
	for _, s := range []string{"a a", "num num", "a b a", "a b b", "a a b", "a b c d e f g h i b"} {
		wantFault(t, example, list(s), much, faultOf(api.ErrArg))
		wantFault(t, "=", list(s), little, faultOf(api.ErrArg))
	}
	names := numbered(200)
	for _, i := range []int{0, 1, 100, 198} {
		twice := slices.Clone(names)
		twice[199] = names[i]
		wantFault(t, rulesOf(names), twice, much, faultOf(api.ErrArg))
	}
	// One is only the beginning of the other one.
	tableOf(t, rulesOf(list("a aa a- a0 aaa")), list("aa a a- a0 aaa")...)
}

// P11.1: caps at 0, at 1, at the most that may be, and one more.
func TestCapEdges(t *testing.T) {
	const empty = "a = \"\""
	for _, k := range []struct {
		most int
		with func(int) api.Caps
	}{
		{20000, func(n int) api.Caps { return api.Caps{Tree: n, Nfa: 1, Dfa: 1} }},
		{20000, func(n int) api.Caps { return api.Caps{Tree: 1, Nfa: n, Dfa: 1} }},
		{5000, func(n int) api.Caps { return api.Caps{Tree: 1, Nfa: 1, Dfa: n} }},
	} {
		for _, n := range []int{1, 2, k.most - 1, k.most} {
			x, f := Make(empty, list("a"), k.with(n))
			if f != (api.Fault{}) || !table.Right(x) {
				t.Error(k.with(n), shownFault(f))
			}
			wantWhole(t, x, "", "a")
		}
		for _, n := range []int{math.MinInt, -k.most, -2, -1, 0, k.most + 1, k.most + 2, 1 << 16, 1 << 32, math.MaxInt} {
			wantFault(t, empty, list("a"), k.with(n), faultOf(api.ErrArg))
			wantFault(t, "$", list("a"), k.with(n), faultOf(api.ErrArg))
			wantFault(t, empty, list("b"), k.with(n), faultOf(api.ErrArg))
		}
	}
	wantFault(t, empty, list("a"), api.Caps{}, faultOf(api.ErrArg))
	wantFault(t, empty, list("a"), api.Caps{Tree: 5001, Nfa: 5001, Dfa: 5001}, faultOf(api.ErrArg))
}

// nested answers a thing in so many brackets, each of which is a tree of its own.
func nested(many int, thing string) string {
	return strings.Repeat("[", many) + thing + strings.Repeat("]", many)
}

// textFaults answers texts that have an error, and the error.
func textFaults() map[string]api.Fault {
	at := func(err api.Errno, place int) api.Fault { return api.Fault{Err: err, At: place} }
	of := func(err api.Errno, name string) api.Fault { return api.Fault{Err: err, Name: name} }
	return map[string]api.Fault{
		strings.Repeat(";", 1<<16+1):              at(api.ErrLong, 1<<16),
		"a = \"x\"" + strings.Repeat("\n", 1<<17): at(api.ErrLong, 1<<16),
		"= a":                 at(api.ErrLine, 0),
		"a = \"x\"\n\n$":      at(api.ErrLine, 9),
		" a = \"x\"":          at(api.ErrLine, 0),
		"a = $":               at(api.ErrByte, 4),
		"a = \"x\"\nb = \xff": at(api.ErrByte, 12),
		"a = 12345\"x\"":      at(api.ErrNumber, 4),
		"a = 1*12345\"x\"":    at(api.ErrNumber, 6),
		"a = 5*3\"x\"":        at(api.ErrTimes, 4),
		"a = \"x":             at(api.ErrChars, 4),
		"a = \"x\x7f\"":       at(api.ErrChars, 4),
		"a = %x100":           at(api.ErrValue, 4),
		"a = \"x\" %d7-6":     at(api.ErrValue, 8),
		"a = <x>":             at(api.ErrProse, 4),

		"a = ":                               at(api.ErrGram, 4),
		"a = (b":                             at(api.ErrGram, 6),
		"a b":                                at(api.ErrGram, 2),
		"a = \"x\"\nb = )":                   at(api.ErrGram, 12),
		"a = \"x\"\nb = " + nested(100, "a"): at(api.ErrDeep, 8),

		"a = \"x\"\na = \"y\"":  of(api.ErrTwice, "a"),
		"b = \"x\"\nB = \"y\"":  of(api.ErrTwice, "b"),
		"a =/ \"x\"":            of(api.ErrMore, "a"),
		"a = \"x\"\nb =/ \"x\"": of(api.ErrMore, "b"),
		"a = \"x\"\nb = " + nested(99, "a") + "\nb =/ \"y\"": of(api.ErrDeep, "b"),
		"a = b":                           of(api.ErrNone, "b"),
		"a = \"x\" / C / d":               of(api.ErrNone, "c"),
		"a = a":                           of(api.ErrLoop, "a"),
		"a = \"x\"\nb = C a\nc = [b]":     of(api.ErrLoop, "b"),
		"a = 0none":                       of(api.ErrNone, "none"),
		"a = *0a":                         of(api.ErrLoop, "a"),
		"a = " + strings.Repeat("b", 100): of(api.ErrNone, strings.Repeat("b", 100)),
		"a = \"x\"\n" + strings.Repeat("b", 99) + " =/ a": of(api.ErrMore, strings.Repeat("b", 99)),
	}
}

// P11.1, P11.3: each error of a text, with its place or its name, whatever the names and however great the caps are.
func TestTextFaults(t *testing.T) {
	seen := map[api.Errno]bool{}
	for s, want := range textFaults() {
		seen[want.Err] = true
		for _, names := range [][]string{{"a"}, {"b"}, {"none"}, {"b", "a"}, {"none", "a", "b"}, numbered(200)} {
			for _, caps := range []api.Caps{little, much, {Tree: 500, Nfa: 500, Dfa: 100}, {Tree: 1, Nfa: 20000, Dfa: 1}, {Tree: 20000, Nfa: 1, Dfa: 5000}} {
				wantFault(t, s, names, caps, want)
			}
			// Arguments that may not be come ahead of all.
			wantFault(t, s, append(names, "A"), much, faultOf(api.ErrArg))
			wantFault(t, s, names, api.Caps{Tree: 1, Nfa: 1}, faultOf(api.ErrArg))
		}
	}
	if len(seen) != 14 {
		t.Error("so many errors were looked at:", len(seen))
	}
}

// P11.1: of several errors the one that is named first counts.
func TestFaultOrder(t *testing.T) {
	tree, loose := api.Caps{Tree: 9, Nfa: 20000, Dfa: 5000}, api.Fault{Err: api.ErrCap}
	const some = "a = \"x\"\nb = 9\"x\"\nc = 10\"x\"\n"
	for _, k := range []struct {
		s, names string
		caps     api.Caps
		want     api.Fault
	}{
		// Lex's ahead of Parse's, that ahead of Gather's, wherever they stand.
		{"a = )\nb = $", "a", little, api.Fault{Err: api.ErrByte, At: 10}},
		{"a = a\na = )\nb = <c>", "a", little, api.Fault{Err: api.ErrProse, At: 16}},
		{"a = a\na = none\nb = )", "a", little, api.Fault{Err: api.ErrGram, At: 19}},
		{"a =/ a\nb = " + nested(100, "a"), "none", little, api.Fault{Err: api.ErrDeep, At: 7}},
		// Gather's ahead of a name that no rule has.
		{"a = none", "none", little, api.Fault{Err: api.ErrNone, Name: "none"}},
		{"a = b", "none", little, api.Fault{Err: api.ErrNone, Name: "b"}},
		{"a = \"x\"\nb = b", "none a", little, api.Fault{Err: api.ErrLoop, Name: "b"}},
		// A name that no rule has, of several the first one, ahead of trees that are too great.
		{some, "a b c d", tree, api.Fault{Err: api.ErrNone, Name: "d"}},
		{some, "d c b a", tree, api.Fault{Err: api.ErrNone, Name: "d"}},
		{some, "b e d c", little, api.Fault{Err: api.ErrNone, Name: "e"}},
		{"", "b a", much, api.Fault{Err: api.ErrNone, Name: "b"}},
		{"; nothing\n\n", "a", little, api.Fault{Err: api.ErrNone, Name: "a"}},
		// Trees that are too great, of several that of the first name, ahead of too many states.
		{some, "a b c", tree, api.Fault{Err: api.ErrCap, Name: "b"}},
		{some, "a c b", tree, api.Fault{Err: api.ErrCap, Name: "c"}},
		{some, "c b a", tree, api.Fault{Err: api.ErrCap, Name: "c"}},
		{some, "a b c", api.Caps{Tree: 10, Nfa: 20000, Dfa: 5000}, api.Fault{Err: api.ErrCap, Name: "c"}},
		{some, "a c", api.Caps{Tree: 10, Nfa: 1, Dfa: 1}, api.Fault{Err: api.ErrCap, Name: "c"}},
		{some, "b c", api.Caps{Tree: 10, Nfa: 1, Dfa: 1}, api.Fault{Err: api.ErrCap, Name: "c"}},
		// Too many states of either machine.
		{some, "a b c", api.Caps{Tree: 11, Nfa: 1, Dfa: 5000}, loose},
		{some, "a b c", api.Caps{Tree: 11, Nfa: 20000, Dfa: 1}, loose},
		{some, "a b c", api.Caps{Tree: 11, Nfa: 1, Dfa: 1}, loose},
		// A rule that no name asks for may be as great as it likes.
		{some, "a", api.Caps{Tree: 1, Nfa: 2, Dfa: 2}, api.Fault{}},
	} {
		if x, f := Make(k.s, list(k.names), k.caps); f != k.want || isNothing(x) != (f.Err != api.OK) {
			t.Errorf("%q: %s, %v: %s; want %s", short(k.s), k.names, k.caps, shownFault(f), shownFault(k.want))
		}
	}
}

// P11.1: caps that are just enough, and each of them one less.
func TestJustEnough(t *testing.T) {
	for _, k := range []struct {
		s, names string
		tree     int
		great    string // whose tree is the greatest one
		nfa, dfa int
	}{
		{"a = \"x\"", "a", 1, "a", 2, 2},
		{"a = \"xy\"", "a", 3, "a", 3, 3},
		{"a = \"x\"\nb = 9\"x\"", "a b", 10, "b", 13, 10},
		{"a = \"x\"\nb = 9\"x\"", "b a", 10, "b", 13, 10},
		// A row of the set, and of ReStar of it: an end, two bytes, a split.
		{example, "word", 4, "word", 4, 2},
		{example, "if word num sp", 4, "word", 16, 6},
		{example, "num if word", 4, "num", 13, 5},
		// The second machine has more states than the least one.
		{"a = (%x61 / %x62) %x63 / %x64 %x63", "a", 9, "a", 8, 4},
		{"a = %x61 / %x62 / %x63", "a", 4, "a", 6, 2},
		// The first machine may be greater than the tree, or smaller.
		{"a = \"\"", "a", 1, "a", 1, 1},
		{"a = 100\"\"", "a", 101, "a", 1, 1},
		{"a = *1(*1(*1\"x\"))", "a", 7, "a", 5, 2},
		// At each place it counts whether one of the last five bytes was an x: 2 by 2 by 2 by 2 by 2 states, and those of the beginning.
		{"a = *(\"x\" / \"y\") \"x\" 4(\"x\" / \"y\")", "a", 19, "a", 18, 32},
		{"a = 4999\"x\"", "a", 5000, "a", 5000, 5000},
	} {
		x, f := Make(k.s, list(k.names), api.Caps{Tree: k.tree, Nfa: k.nfa, Dfa: k.dfa})
		if f != (api.Fault{}) || !same(x, tableOf(t, k.s, list(k.names)...)) {
			t.Errorf("%q: %s: %s", k.s, k.names, shownFault(f))
		}
		for _, less := range []struct {
			caps api.Caps
			name string
		}{
			{api.Caps{Tree: k.tree - 1, Nfa: api.MaxNfa, Dfa: api.MaxDfa}, k.great},
			{api.Caps{Tree: k.tree - 1, Nfa: k.nfa - 1, Dfa: k.dfa - 1}, k.great},
			{api.Caps{Tree: k.tree, Nfa: k.nfa - 1, Dfa: k.dfa}, ""},
			{api.Caps{Tree: api.MaxRe, Nfa: k.nfa - 1, Dfa: api.MaxDfa}, ""},
			{api.Caps{Tree: k.tree, Nfa: k.nfa, Dfa: k.dfa - 1}, ""},
			{api.Caps{Tree: api.MaxRe, Nfa: api.MaxNfa, Dfa: k.dfa - 1}, ""},
		} {
			if c := less.caps; min(c.Tree, c.Nfa, c.Dfa) < 1 {
				wantFault(t, k.s, list(k.names), c, faultOf(api.ErrArg))
			} else {
				wantFault(t, k.s, list(k.names), c, api.Fault{Err: api.ErrCap, Name: less.name})
			}
		}
	}
}

// P11.2: the empty text, texts whose first byte begins no token, and some whose token is cut short by what stands behind it.
func TestTokens(t *testing.T) {
	x := tableOf(t, example+"\nab = \"ab\"\nlong = \"<--->\"\ndash = \"<-\"", list("if word num sp ab long dash")...)
	for s, want := range map[string]string{
		"":  "",
		" ": "sp: |", "a": "word:a|", "0": "num:0|", "<-": "dash:<-|",
		"-": "-", "-a": "-a", "\x00if": "\x00if", "\xff": "\xff", "A": "A", "<": "<", "<x": "<x", "\n": "\n",
		"a-":          "word:a|-",
		"aB":          "ab:aB|",
		"AB":          "ab:AB|",
		"aBc":         "ab:aB|word:c|",
		"ab":          "word:ab|",
		"abc":         "word:abc|",
		"aBAb":        "ab:aB|ab:Ab|",
		"if1":         "if:if|num:1|",
		"i1f":         "word:i|num:1|word:f|",
		"ifif":        "word:ifif|",
		"if if\x80if": "if:if|sp: |if:if|\x80if",
		"12 34-56":    "num:12|sp: |num:34|-56",
		"   ":         "sp: |sp: |sp: |",
		"1a1A":        "num:1|word:a|num:1|A",
		// A longer text was begun, and does not end.
		"<---":       "dash:<-|--",
		"<---a":      "dash:<-|--a",
		"<--->":      "long:<--->|",
		"<--<-":      "dash:<-|-<-",
		"<-<---><--": "dash:<-|long:<--->|dash:<-|-",
		"a<--":       "word:a|dash:<-|-",
	} {
		wantTold(t, x, s, want)
	}
	if l, end := Tokens(x, "-"); len(l) > 0 || end != 0 {
		t.Error(l, end)
	}
	for s, name := range map[string]string{"": "", " ": "sp", "if": "if", "i": "word", "iff": "word", "ab": "word", "aB": "ab", "<-": "dash", "<--->": "long", "<": "", "<--": "", "<---": "", "if ": "", " if": "", "-": "", "\x00": "", "a\x00": "", "1a": ""} {
		wantWhole(t, x, s, name)
	}
}

// P11.2: a token for which a longer text was begun that does not end, far away, and near.
func TestBegunInVain(t *testing.T) {
	const s = "a = \"a\"\nlong = *\"a\" \"b\"\npair = *(\"a\" \"a\") \"c\"\nend = \"aad\" *\"d\""
	x := tableOf(t, s, list("a long pair end")...)
	for _, many := range []int{1, 2, 3, 10, 62, 63, 64, 65, 66, 127, 128, 129, 200, 1000} {
		l := strings.Repeat("a", many)
		alone := strings.Repeat("a:a|", many)
		wantTold(t, x, l, alone)
		wantTold(t, x, l+"x"+l, alone+"x"+l)
		wantTold(t, x, l+"b"+l, "long:"+l+"b|"+alone)
		wantTold(t, x, "b"+l+"bb"+l+"x", "long:b|long:"+l+"b|long:b|"+alone+"x")
		// There must be two each time: of others the first one is by itself.
		pairs := l + l
		wantTold(t, x, pairs+"c", "pair:"+pairs+"c|")
		wantTold(t, x, pairs+"ac", "a:a|pair:"+pairs+"c|")
		wantTold(t, x, pairs+"d"+pairs, strings.Repeat("a:a|", 2*many-2)+"end:aad|"+alone+alone)
		wantTold(t, x, pairs+"dddb", strings.Repeat("a:a|", 2*many-2)+"end:aaddd|long:b|")
		wantWhole(t, x, l+"b", "long")
		wantWhole(t, x, pairs+"c", "pair")
		wantWhole(t, x, pairs+"ac", "")
		wantWhole(t, x, pairs, "")
	}
}

// P11.2: a longer text that ends rightly only if it has a number of bytes that is a multiple of some number.
func TestBegunInVainByNumbers(t *testing.T) {
	for _, k := range []int{2, 3, 7, 63, 64, 65, 67, 128, 130, 200} {
		x := tableOf(t, "a = \"a\"\nb = *("+strconv.Itoa(k)+"\"a\") \"b\"", "a", "b")
		for _, rest := range []int{0, 1, k / 2, k - 1} {
			l := strings.Repeat("a", 10*k)
			wantTold(t, x, l[:rest]+l+"b-", strings.Repeat("a:a|", rest)+"b:"+l+"b|-")
			wantTold(t, x, l[:rest]+l+"-", strings.Repeat("a:a|", rest+10*k)+"-")
		}
	}
}

// P11.2: a text that is gone through in vain from each place on takes no longer than others.
func TestLongTexts(t *testing.T) {
	const many = 1 << 20
	x := tableOf(t, "a = \"a\"\nb = *\"a\" \"b\"\nc = *(2\"a\") \"c\"\nd = *(3\"a\") \"d\"\ne = *(7\"a\") \"e\"", list("b c a d e")...)
	l, end := Tokens(x, strings.Repeat("a", many))
	if len(l) != many || end != many {
		t.Fatal(len(l), end)
	}
	for i, p := range l {
		if p != (api.Piece{Tag: 2, At: i, Len: 1}) {
			t.Fatal(i, p)
		}
	}
	for _, k := range []struct{ end, want string }{{"b", "b"}, {"c", "c"}, {"ac", ""}} {
		wantWhole(t, x, strings.Repeat("a", many)+k.end, k.want)
	}
	if l, end := Tokens(x, strings.Repeat("a", many)+"c"); !slices.Equal(l, []api.Piece{{Tag: 1, Len: many + 1}}) || end != many+1 {
		t.Error(len(l), end)
	}
	// From the one behind the first one on there are as many as a pair asks for.
	if l, end := Tokens(x, strings.Repeat("a", many-1)+"c"); !slices.Equal(l, []api.Piece{{Tag: 2, Len: 1}, {Tag: 1, At: 1, Len: many - 1}}) || end != many {
		t.Error(len(l), end)
	}
	// Nothing is told of a text but its first token.
	if l, end := Tokens(x, "b"+strings.Repeat("x", many)); len(l) != 1 || end != 1 {
		t.Error(len(l), end)
	}
}

// P11.2: names of which one derives the empty text: no token is empty, but the empty text may be whole.
func TestEmptyTokens(t *testing.T) {
	x := tableOf(t, "a = *\"x\"\nb = \"\"\nc = [\"y\"]\nd = \"z\"", list("d b c a")...)
	for s, want := range map[string]string{"": "", "x": "a:x|", "xxyxz": "a:xx|c:y|a:x|d:z|", "yy": "c:y|c:y|", "-": "-", "x-x": "a:x|-x", "zq": "d:z|q"} {
		wantTold(t, x, s, want)
	}
	// Of those that derive the empty text the first one counts.
	wantWhole(t, x, "", "b")
	wantWhole(t, x, "x", "a")
	wantWhole(t, x, "y", "c")
	wantWhole(t, x, "q", "")
	for _, k := range []struct{ s, whole string }{{"a = \"\"", "a"}, {"a = 0\"x\"", "a"}, {"a = *\"\"", "a"}, {"a = [\"x\"]", "a"}, {"a = \"x\"", ""}} {
		x := tableOf(t, k.s, "a")
		wantWhole(t, x, "", k.whole)
		wantTold(t, x, "", "")
		wantTold(t, x, "-", "-")
	}
	wantTold(t, tableOf(t, "a = \"\"\nb = \"x\"", "a", "b"), "xx", "b:x|b:x|")
}

// P11.2: names that derive the same text, in both orders.
func TestSameText(t *testing.T) {
	const s = "a = \"x\" / \"yy\"\nb = %x78 / \"y\"\nc = *%x78-79"
	for _, k := range []struct{ names, told, x, capital, yy string }{
		{"a b", "a:x|a:X|b:y|-", "a", "a", "a"},
		{"b a", "b:x|a:X|b:y|-", "b", "a", "a"},
		{"a b c", "a:x|a:X|b:y|-", "a", "a", "a"},
		{"c a b", "c:x|a:X|c:y|-", "c", "a", "c"},
		{"b c a", "b:x|a:X|b:y|-", "b", "a", "c"},
		{"c", "c:x|Xy-", "c", "", "c"},
	} {
		x := tableOf(t, s, list(k.names)...)
		wantTold(t, x, "xXy-", k.told)
		wantWhole(t, x, "x", k.x)
		wantWhole(t, x, "X", k.capital)
		wantWhole(t, x, "yy", k.yy)
	}
}

// P11.2: each byte, from 0 to 255, alone and beside all others.
func TestBytes(t *testing.T) {
	all := make([]byte, 256)
	for b := range all {
		all[b] = byte(b)
	}
	whole := string(all)
	two := tableOf(t, "low = %x00-7F\nhigh = 1*%x80-FF", "low", "high")
	every := tableOf(t, "all = *%x00-FF", "all")
	for b := range 256 {
		s, hex := whole[b:b+1], strconv.FormatInt(int64(b), 16)
		name := []string{"low", "high"}[b/128]
		wantTold(t, two, s, name+":"+s+"|")
		wantWhole(t, two, s, name)
		wantWhole(t, two, s+s, []string{"", "high"}[b/128])
		wantTold(t, every, s+"\n"+s, "all:"+s+"\n"+s+"|")
		one := tableOf(t, "one = %x"+hex, "one")
		for other := range 256 {
			s := whole[other : other+1]
			if other == b {
				wantTold(t, one, s+s, "one:"+s+"|one:"+s+"|")
				wantWhole(t, one, s, "one")
			} else {
				wantTold(t, one, s, s)
				wantWhole(t, one, s, "")
			}
		}
	}
	wantTold(t, every, whole, "all:"+whole+"|")
	l, end := Tokens(two, whole)
	if len(l) != 129 || end != 256 || l[127] != (api.Piece{At: 127, Len: 1}) || l[128] != (api.Piece{Tag: 1, At: 128, Len: 128}) {
		t.Error(len(l), end)
	}
	// As many classes as there are bytes.
	var lines []string
	for b := range 255 {
		lines = append(lines, "%x"+strconv.FormatInt(int64(b), 16)+" 1*"+strconv.Itoa(b%9+1)+"\"!\"")
	}
	x := tableOf(t, "a = "+strings.Join(lines, " / "), "a")
	if x.C.Many != 256 {
		t.Error(x.C.Many)
	}
	wantTold(t, x, "\x00!!\x01!!!\x02!!\x03!!!\xff", "a:\x00!|!\x01!!!\x02!!\x03!!!\xff")
	wantTold(t, x, "\x00!\x01!!\xfe!!!\xff", "a:\x00!|a:\x01!!|a:\xfe!!!|\xff")
}

// byHand answers a table that was not made of a grammar: the class 1 is of a, 2 of b.
func byHand(next, tags []int, names ...string) api.Table {
	x := api.Table{D: api.Dfa{Many: 3, Next: next, Tags: tags}, Names: names}
	x.C.Many, x.C.Of['a'], x.C.Of['b'] = 3, 1, 2
	return x
}

// P11.2: tables that are right, but are not such as are made.
func TestOtherTables(t *testing.T) {
	// The state 0 has a tag, and is come to again.
	x := byHand([]int{-1, 0, 1, -1, -1, 0}, []int{1, -1}, "x", "y")
	for s, want := range map[string]string{"": "", "a": "y:a|", "aaa": "y:aaa|", "b": "b", "bb": "y:bb|", "abba": "y:abba|", "abab": "y:a|bab", "c": "c", "ac": "y:a|c"} {
		wantTold(t, x, s, want)
	}
	wantWhole(t, x, "", "y")
	wantWhole(t, x, "ab", "")
	wantWhole(t, x, "abb", "y")
	// States from which no tag is come to, and which are gone through again and again; and one that is not come to.
	x = byHand([]int{3, 1, 2, -1, 3, 3, 3, 3, 3, 3, 3, 3, 0, 0, 0}, []int{-1, 0, 1, -1, 5}, "a", "b", "c", "d", "e", "f")
	for _, many := range []int{0, 1, 63, 64, 65, 129} {
		a, b := strings.Repeat("a", many), strings.Repeat("b", many)
		wantTold(t, x, a+"-", strings.Repeat("a:a|", many)+"-")
		wantTold(t, x, "-"+a, "-"+a)
		wantTold(t, x, "b"+a+"b", "b:b|"+strings.Repeat("a:a|", many)+"b:b|")
		wantTold(t, x, a+"-"+b, strings.Repeat("a:a|", many)+"-"+b)
	}
	// States that are alike, and no tag at all.
	x = byHand([]int{1, 2, 1, 2, 1, 2, 1, 2, 1}, []int{-1, -1, -1}, "a")
	wantTold(t, x, "abc", "abc")
	wantWhole(t, x, "abc", "")
	wantWhole(t, x, "", "")
	x = byHand([]int{1, 2, 1, 2, 1, 2, 1, 2, 1}, []int{0, 1, 0}, "a", "b")
	wantTold(t, x, "abc", "a:abc|")
	wantWhole(t, x, "ab", "b")
	wantWhole(t, x, "aba", "b")
	wantWhole(t, x, "abc", "a")
}

// P11.2: tables that are not right, each by one thing.
func TestWrongTables(t *testing.T) {
	right := func() api.Table { return tableOf(t, example, list("if word num sp")...) }
	wantTold(t, right(), "if", "if:if|")
	for i, spoil := range []func(x *api.Table){
		func(x *api.Table) { *x = api.Table{} },
		func(x *api.Table) { x.C = api.Classes{} },
		func(x *api.Table) { x.C.Many++ },
		func(x *api.Table) { x.C.Many-- },
		func(x *api.Table) { x.C.Of['q'] = 255 },
		func(x *api.Table) { x.C.Of[0] = 1 },
		func(x *api.Table) { x.D = api.Dfa{} },
		func(x *api.Table) { x.D.Many++ },
		func(x *api.Table) { x.D.Many = 0 },
		func(x *api.Table) { x.D.Many = -1 },
		func(x *api.Table) { x.D.Next = x.D.Next[1:] },
		func(x *api.Table) { x.D.Next = append(x.D.Next, -1) },
		func(x *api.Table) { x.D.Next[0] = len(x.D.Tags) },
		func(x *api.Table) { x.D.Next[len(x.D.Next)-1] = -2 },
		func(x *api.Table) { x.D.Next[1] = math.MaxInt },
		func(x *api.Table) { x.D.Tags = nil },
		func(x *api.Table) { x.D.Tags = append(x.D.Tags, -1) },
		func(x *api.Table) { x.D.Tags[0] = -2 },
		func(x *api.Table) { x.D.Tags[0] = 4 },
		func(x *api.Table) { x.D.Tags[len(x.D.Tags)-1] = 200 },
		func(x *api.Table) { x.Names = nil },
		func(x *api.Table) { x.Names = x.Names[:3] },
		func(x *api.Table) { x.Names = append(x.Names, "if") },
		func(x *api.Table) { x.Names = append(x.Names, numbered(197)...) },
		func(x *api.Table) { x.Names[2] = "Num" },
		func(x *api.Table) { x.Names[2] = "" },
	} {
		x := right()
		spoil(&x)
		for _, s := range []string{"", "if", "12", "q", "-"} {
			if l, end := Tokens(x, s); len(l) > 0 || end != 0 {
				t.Errorf("%d: %q: %v, %d", i, s, l, end)
			}
			if tag, ok := Whole(x, s); tag != 0 || ok {
				t.Errorf("%d: %q: %d, %v", i, s, tag, ok)
			}
		}
	}
}

// P11.1: the machine is the least one, its states and classes are numbered, and the names stand as they were handed in.
func TestLeastMachine(t *testing.T) {
	x := tableOf(t, "a = (%x61 / %x62) %x63 / %x64 %x63\nb = 2%x64", "b", "a")
	want := api.Table{C: api.Classes{Many: 5}, D: api.Dfa{Many: 5, Next: []int{-1, 1, 1, -1, 2, -1, -1, -1, 3, -1, -1, -1, -1, 3, 4}, Tags: []int{-1, -1, -1, 1, 0}}, Names: []string{"b", "a"}}
	copy(want.C.Of['a':], []uint8{1, 2, 3, 4})
	for range 10 {
		want.D.Next = append(want.D.Next, -1)
	}
	if !same(x, want) {
		t.Errorf("%s; want %s", shown(x), shown(want))
	}
}

// P11.1: texts as long as may be, with as many names as may be; and trees and machines that are as great.
func TestGreat(t *testing.T) {
	names := numbered(200)
	s := rulesOf(names)
	s += strings.Repeat("\n", 1<<16-len(s))
	wantTold(t, tableOf(t, s, names...), "<n199><n>", "n199:<n199>|<n>")
	wantFault(t, s+"\n", names, much, api.Fault{Err: api.ErrLong, At: 1 << 16})
	// Each tree has 20000 nodes, but next to no state.
	s = ""
	for _, name := range names {
		s += name + " = 9999\"\" 9993\"\" \"" + name + "\"\n"
	}
	x := tableOf(t, s, names...)
	wantWhole(t, x, "N77", "n77")
	wantTold(t, x, "n7n77n777", "n7:n7|n77:n77|n77:n77|7")
	wantFault(t, s, names, api.Caps{Tree: 19999, Nfa: 1, Dfa: 1}, api.Fault{Err: api.ErrCap, Name: "n100"})
}

// What is handed in is not changed nor kept, its spare room neither; what is handed out is new.
func TestMemory(t *testing.T) {
	want := tableOf(t, example, list("if word num sp")...)
	names := roomy(list("if word num sp"), "A", "")
	first, _ := Make(example, names, much)
	second, _ := Make(example, names, much)
	third, _ := Make(example, names, much)
	if !slices.Equal(names[:6], append(list("if word num sp"), "A", "")) {
		t.Error("what was handed in is changed")
	}
	fill(names, "x")
	if !same(first, want) {
		t.Error("what was handed in is kept:", shown(first))
	}
	fill(first.D.Next, 77)
	fill(first.Names, "q")
	if !slices.Equal(first.D.Tags, want.D.Tags) {
		t.Error("two lists of one answer share memory")
	}
	fill(second.D.Tags, 78)
	if !slices.Equal(second.D.Next, want.D.Next) || !slices.Equal(second.Names, want.Names) || !same(third, want) {
		t.Error("an answer changes with another one:", shown(third))
	}
	x := third
	x.D.Next, x.D.Tags, x.Names = roomy(x.D.Next, -9, 99), roomy(x.D.Tags, -9, 99), roomy(x.Names, "", "X")
	l, _ := Tokens(x, "if iffy 12")
	again, _ := Tokens(x, "if iffy 12")
	fill(l, api.Piece{Tag: 9, At: 9, Len: 9})
	if len(again) != 5 || again[4] != (api.Piece{Tag: 2, At: 8, Len: 2}) {
		t.Error("an answer changes with another one:", again)
	}
	wantWhole(t, x, "if", "if")
	if !same(x, want) || !slices.Equal(x.D.Next[len(x.D.Next):][:2], []int{-9, 99}) || !slices.Equal(x.D.Tags[len(x.D.Tags):][:2], []int{-9, 99}) || !slices.Equal(x.Names[4:6], []string{"", "X"}) {
		t.Error("what was handed in is changed:", shown(x))
	}
}

// roomy answers a list behind which, in its spare room, some things stand that are none of it.
func roomy[T any](l []T, more ...T) []T { return append(slices.Clone(l), more...)[:len(l)] }

// fill puts something at all places of a list, and of its spare room.
func fill[T any](l []T, with T) {
	l = l[:cap(l)]
	for i := range l {
		l[i] = with
	}
}
