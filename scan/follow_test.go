package scan

import (
	"math/rand"
	"regexp"
	"slices"
	"strings"
	"testing"

	"franking/abnf"
	"franking/api"
	"franking/classes"
	"franking/derive"
	"franking/dfa"
	smallest "franking/least"
	"franking/lex"
	"franking/nfa"
	"franking/regex"
	"franking/rules"
	"franking/table"
)

// The chapter's words once more, as plainly as may be, to hold the package against.

var plainName = regexp.MustCompile(`\A[a-z][a-z0-9-]{0,63}\z`)

func plainArg(names []string, caps api.Caps) bool {
	for i, name := range names {
		if !plainName.MatchString(name) || slices.Contains(names[:i], name) {
			return false
		}
	}
	return len(names) > 0 && len(names) <= 200 &&
		caps.Tree > 0 && caps.Tree <= 20000 && caps.Nfa > 0 && caps.Nfa <= 20000 && caps.Dfa > 0 && caps.Dfa <= 5000
}

// gramOf answers the grammar of a text, or its error.
func gramOf(s string) (api.Gram, api.Fault) {
	toks, at, err := lex.Lex(s)
	if err != api.OK {
		return api.Gram{}, api.Fault{Err: err, At: at}
	}
	l, at, err := abnf.Parse(toks)
	if err != api.OK {
		return api.Gram{}, api.Fault{Err: err, At: at}
	}
	g, name, err := rules.Gather(l)
	return g, api.Fault{Err: err, Name: name}
}

func plainMake(s string, names []string, caps api.Caps) (api.Table, api.Fault) {
	if !plainArg(names, caps) {
		return api.Table{}, api.Fault{Err: api.ErrArg}
	}
	g, f := gramOf(s)
	if f.Err != api.OK {
		return api.Table{}, f
	}
	for _, name := range names {
		if !slices.ContainsFunc(g.Rules, func(r api.Rule) bool { return r.Name == name }) {
			return api.Table{}, api.Fault{Err: api.ErrNone, Name: name}
		}
	}
	var trees []api.Re
	for _, name := range names {
		tree, err := regex.Inline(g, name, api.MaxRe)
		if err != api.OK || regex.Size(tree) > caps.Tree {
			return api.Table{}, api.Fault{Err: api.ErrCap, Name: name}
		}
		trees = append(trees, tree)
	}
	x := api.Table{Names: names}
	x.C, _ = classes.Of(trees)
	n, err := nfa.Build(trees, api.MaxNfa)
	if err != api.OK || len(n.States) > caps.Nfa {
		return api.Table{}, api.Fault{Err: api.ErrCap}
	}
	d, err := dfa.Build(n, x.C, caps.Dfa)
	if err != api.OK {
		return api.Table{}, api.Fault{Err: api.ErrCap}
	}
	x.D, _ = smallest.Least(d)
	return x, api.Fault{}
}

// plainTags answers the tags of a machine behind no bytes of a text, behind the first one, and so on.
func plainTags(x api.Table, s string) []int {
	var l []int
	for i := range len(s) {
		l = append(l, int(x.C.Of[s[i]]))
	}
	tags, _ := dfa.Run(x.D, l)
	return tags
}

func plainTokens(x api.Table, s string) ([]api.Piece, int) {
	var l []api.Piece
	end := 0
	for table.Right(x) {
		tags := plainTags(x, s[end:])
		long := len(tags) - 1
		for long > 0 && tags[long] == -1 {
			long--
		}
		if long == 0 {
			break
		}
		l = append(l, api.Piece{Tag: tags[long], At: end, Len: long})
		end += long
	}
	return l, end
}

func plainWhole(x api.Table, s string) (int, bool) {
	if table.Right(x) {
		if tag := plainTags(x, s)[len(s)]; tag != -1 {
			return tag, true
		}
	}
	return 0, false
}

// checkMake holds Make against the chapter's words, and answers its table.
func checkMake(t testing.TB, s string, names []string, caps api.Caps) (api.Table, api.Fault) {
	t.Helper()
	want, fault := plainMake(s, names, caps)
	x, f := Make(s, names, caps)
	if f != fault || !same(x, want) {
		t.Fatalf("%q: %q, %v: %s, %s; want %s, %s", s, names, caps, shownFault(f), shown(x), shownFault(fault), shown(want))
	}
	if f.Err == api.OK && !table.Right(x) {
		t.Fatalf("%q: %q, %v: a table that is not right: %s", s, names, caps, shown(x))
	}
	return x, f
}

// check holds Tokens and Whole of a table, right or not, against the chapter's words, and answers how many tokens there are.
func check(t testing.TB, x api.Table, s string) int {
	t.Helper()
	want, wantEnd := plainTokens(x, s)
	if l, end := Tokens(x, s); end != wantEnd || !slices.Equal(l, want) {
		t.Fatalf("%s: %q: %v, %d; want %v, %d", shown(x), s, l, end, want, wantEnd)
	}
	tag, ok := plainWhole(x, s)
	if got, is := Whole(x, s); got != tag || is != ok {
		t.Fatalf("%s: %q: %d, %v; want %d, %v", shown(x), s, got, is, tag, ok)
	}
	return len(want)
}

// tally counts what was looked at.
type tally struct {
	faults                          map[api.Errno]int
	tables, tokens, several, nowise int
}

func newTally() *tally { return &tally{faults: map[api.Errno]int{}} }

// checkDerived holds the tokens of all ends of a text, and what is whole, against what the named rules derive.
func (y *tally) checkDerived(t testing.TB, g api.Gram, x api.Table, s string) {
	t.Helper()
	for at := range len(s) + 1 {
		var first api.Piece
		whole, several := -1, 0
		for tag, name := range x.Names {
			ends, err := derive.Ends(g, name, s, at)
			if err != api.OK {
				t.Fatal(name, s, err)
			}
			if slices.Contains(ends, len(s)) && whole == -1 {
				whole = tag
			}
			long, _ := derive.Longest(g, name, s, at)
			if long > 0 && long == first.Len {
				several++
			}
			if long > first.Len {
				first = api.Piece{Tag: tag, Len: long}
			}
		}
		l, _ := Tokens(x, s[at:])
		if len(l) > 0 && l[0] != first || len(l) == 0 && first.Len > 0 {
			t.Fatalf("%s: %q: %v; but there is derived %v", shown(x), s[at:], l, first)
		}
		if tag, ok := Whole(x, s[at:]); tag != max(whole, 0) || ok != (whole != -1) {
			t.Fatalf("%s: %q: %d, %v; but it is derived by %d", shown(x), s[at:], tag, ok, whole)
		}
		y.tokens += min(len(l), 1)
		y.several += min(several, 1)
		if len(l) == 0 && at < len(s) {
			y.nowise++
		}
	}
}

// checkAll holds all three calls of a grammar's text, some names and caps against the chapter's words, and against what the rules derive.
func (y *tally) checkAll(t testing.TB, s string, names []string, caps api.Caps, texts ...string) {
	t.Helper()
	x, f := checkMake(t, s, names, caps)
	y.faults[f.Err]++
	g, fault := gramOf(s)
	if plainArg(names, caps) && fault.Err != api.OK && f != fault {
		t.Fatalf("%q: %s; but the text's error is %s", s, shownFault(f), shownFault(fault))
	}
	if f.Err != api.OK {
		return
	}
	y.tables++
	for _, text := range texts {
		check(t, x, text)
		y.checkDerived(t, g, x, text)
	}
	// Greater caps make the same table.
	if again, f := Make(s, names, much); f.Err != api.OK || !same(again, x) {
		t.Fatalf("%q: %q, %v: %s; but of the greatest caps %s, %s", s, names, caps, shown(x), shownFault(f), shown(again))
	}
}

// textsOf answers all texts of some bytes, at most so long.
func textsOf(some string, long int) []string {
	l := []string{""}
	for from := 0; long > 0; long-- {
		to := len(l)
		for _, s := range l[from:to] {
			for i := range len(some) {
				l = append(l, s+some[i:i+1])
			}
		}
		from = to
	}
	return l
}

// P11.1 to P11.3: short rules, two by two, in both orders of their names, and all short texts.
func TestShortRules(t *testing.T) {
	things := []string{`""`, `"a"`, `%x61`, `%x61-62`, `%x62`, `%x61.62`, `*"a"`, `1*2%x61`, `*%x61 "b"`, `["a"] %x62`, `*("a" "b")`, `"a" *"b" "a"`, `2*%x61-62`, `"A" / "ab" / "abb"`, `%x00-FF`, `0"a"`}
	texts := textsOf("aAb", 4)
	y := newTally()
	for _, one := range things {
		for _, other := range things {
			s := "x = " + one + "\ny = " + other
			g, _ := gramOf(s)
			for _, names := range [][]string{{"x"}, {"x", "y"}, {"y", "x"}} {
				x, _ := checkMake(t, s, names, much)
				for i, text := range texts {
					check(t, x, text)
					if i%7 == len(names) {
						y.checkDerived(t, g, x, text)
					}
				}
			}
		}
	}
	if y.tokens < 10000 || y.several < 1000 || y.nowise < 2000 {
		t.Error("hardly anything was looked at:", y.tokens, y.several, y.nowise)
	}
}

// randTree answers a tree's text of some of the names, at most so deep.
func randTree(r *rand.Rand, names string, deep int) string {
	if deep == 1 || r.Intn(4) == 0 {
		if i := r.Intn(len(names) + 2); i < len(names) {
			return names[i : i+1]
		}
		return []string{`"a"`, `"Ab"`, "%x62", "%x61-7A", "%x61.62", `""`, "%x00-FF", "%x41-61", "%x62-63", "%d10"}[r.Intn(10)]
	}
	sides := []string{randTree(r, names, deep-1), randTree(r, names, deep-1)}
	switch r.Intn(5) {
	case 0:
		return "(" + strings.Join(sides, " / ") + ")"
	case 1, 2:
		return "(" + strings.Join(sides, " ") + ")"
	case 3:
		return "[" + sides[0] + "]"
	}
	return []string{"2", "*", "0", "1", "1*", "*2", "2*3", "3*3", "9"}[r.Intn(9)] + "(" + sides[0] + ")"
}

// randGram answers the text of a grammar of rules from a on, of which each one has names of later ones in it.
func randGram(r *rand.Rand) (string, string) {
	all := "abcdefg"[:1+r.Intn(7)]
	var lines []string
	for i := range all {
		lines = append(lines, all[i:i+1]+" = "+randTree(r, all[i+1:], 4))
	}
	r.Shuffle(len(lines), func(i, j int) { lines[i], lines[j] = lines[j], lines[i] })
	return strings.Join(lines, "\n"), all
}

// randNames answers some of the names of rules, in any order.
func randNames(r *rand.Rand, all string) []string {
	names := strings.Split(all, "")
	r.Shuffle(len(names), func(i, j int) { names[i], names[j] = names[j], names[i] })
	return names[:1+r.Intn(len(names))]
}

func randText(r *rand.Rand, bytes string, long int) string {
	b := make([]byte, r.Intn(long+1))
	for i := range b {
		b[i] = bytes[r.Intn(len(bytes))]
	}
	return string(b)
}

// P11.1 to P11.3: grammars by chance, and texts of them.
func TestGrammarsByChance(t *testing.T) {
	r := rand.New(rand.NewSource(11))
	y := newTally()
	for range 600 {
		s, all := randGram(r)
		names := randNames(r, all)
		y.checkAll(t, s, names, api.Caps{Tree: 3000, Nfa: 3000, Dfa: 200}, randText(r, "ab", 12), randText(r, "aAbc\n", 12), randText(r, "ab\x00\x80\xff{", 8), strings.Repeat("ab", r.Intn(30)))
	}
	if y.tables < 450 || y.faults[api.ErrCap] < 20 || y.tokens < 10000 || y.several < 500 || y.nowise < 4000 {
		t.Error("hardly anything was looked at:", y.tables, y.faults, y.tokens, y.several, y.nowise)
	}
}

// spoil changes a byte of a text, or puts one in, or takes one out.
func spoil(r *rand.Rand, s string) string {
	i := r.Intn(len(s))
	by := []string{"", "=", "(", ")", "/", "\"", "%", "9", "*", "\n", "a", "b", "none", " ", ";", "$", "<", "=/", "x", "\x80"}[r.Intn(20)]
	return s[:i] + by + s[i+r.Intn(2):]
}

// P11.1, P11.3: texts, names and caps by chance that often may not be: the error is that of the chapter's order, and one of the text is told whatever the caps are.
func TestFaultsByChance(t *testing.T) {
	r := rand.New(rand.NewSource(111))
	y := newTally()
	for range 6000 {
		s, all := randGram(r)
		for range r.Intn(3) {
			s = spoil(r, s)
		}
		if r.Intn(20) == 0 {
			s += "\n" + all[:1] + " = \"\""
		}
		names := randNames(r, all)
		switch r.Intn(10) {
		case 0:
			names = append(names, []string{"A", "", "9", names[0], strings.Repeat("a", 65)}[r.Intn(5)])
		case 1:
			names = slices.Insert(names, r.Intn(len(names)), "none", "nor")
		}
		caps := api.Caps{Tree: r.Intn(50), Nfa: r.Intn(60), Dfa: r.Intn(20)}
		for i, cap := range []*int{&caps.Tree, &caps.Nfa, &caps.Dfa} {
			switch r.Intn(4) {
			case 0, 1:
				*cap = []int{20000, 20000, 5000}[i]
			case 2:
				*cap = max(*cap, 1)
			}
		}
		y.checkAll(t, s, names, caps, randText(r, "abc", 5))
		if g, fault := gramOf(s); fault.Err != api.OK {
			for _, caps := range []api.Caps{little, much} {
				wantFault(t, s, []string{"a"}, caps, fault)
			}
		} else if _, f := Make(s, []string{"none"}, little); f != (api.Fault{Err: api.ErrNone, Name: "none"}) {
			if _, is := rules.Find(g, "none"); !is {
				t.Fatalf("%q: %s", s, shownFault(f))
			}
		}
	}
	for _, err := range []api.Errno{api.OK, api.ErrArg, api.ErrByte, api.ErrChars, api.ErrValue, api.ErrGram, api.ErrTwice, api.ErrNone, api.ErrLoop, api.ErrCap} {
		if y.faults[err] < 20 {
			t.Error("hardly anything was looked at:", err, y.faults)
		}
	}
}

// randTable answers a table of few classes that is right, and seldom one that is not. The last of its states have no tag and lead to one another, but for a few ways back: there a text goes on and on, most often in vain.
func randTable(r *rand.Rand) api.Table {
	many, states := 1+r.Intn(4), 1+r.Intn(12)
	if r.Intn(8) == 0 {
		states = 1 + r.Intn(200)
	}
	vain := 1 + r.Intn(states)
	next, tags := make([]int, states*many), make([]int, states)
	for i := range next {
		next[i] = r.Intn(states)
		if i >= vain*many && r.Intn(50) > 0 {
			next[i] = vain + r.Intn(states-vain)
		} else if r.Intn(20) == 0 {
			next[i] = -1
		}
	}
	for i := range tags {
		tags[i] = -1
		if i < vain && r.Intn(3) > 0 {
			tags[i] = r.Intn(2)
		}
	}
	x := api.Table{C: api.Classes{Many: many}, D: api.Dfa{Many: many, Next: next, Tags: tags}, Names: numbered(2)}
	for b := range many - 1 {
		x.C.Of['a'+b] = uint8(b + 1)
	}
	if r.Intn(10) == 0 {
		tags[r.Intn(states)] = 2
	}
	return x
}

// P11.2: tables by chance, and long texts: what is begun in vain ends far away, or not at all.
func TestTablesByChance(t *testing.T) {
	r := rand.New(rand.NewSource(112))
	right, wrong, tokens, long, far := 0, 0, 0, 0, 0
	for range 1500 {
		x := randTable(r)
		if table.Right(x) {
			right++
		} else {
			wrong++
		}
		for _, bytes := range []string{"a", "ab", "aabc-"} {
			s := randText(r, bytes, 500)
			many := check(t, x, s)
			tokens += many
			if many > 200 {
				long++
			}
			// Many tokens, and a machine that always goes on.
			if many > 100 && !slices.Contains(x.D.Next, -1) {
				far++
			}
		}
	}
	if right < 1000 || wrong < 50 || tokens < 50000 || long < 100 || far < 100 {
		t.Error("hardly anything was looked at:", right, wrong, tokens, long, far)
	}
}

// P11.1 to P11.3: a grammar as it may be.
func TestGrammar(t *testing.T) {
	const s = `if = %x69.66
word = alpha *(alpha / digit / "-" (alpha / digit))
alpha = %x61-7A / %x41-5A
digit = %x30-39
num = 1*3digit ["." 1*digit]
quoted = %x22 *(%x20-21 / %x23-5B / %x5D-7E / %x5C %x20-7E) %x22
blank = 1*(" " / %x09)
fold = *blank %x0D.0A 1*blank
high = *%x80-FF`
	texts := []string{"", "if", "IF iffy", "a-b.c--d", "12.5.1234", `"a\"b" "not closed`, "1 2 \r\n \t3 \r\n", "\"\xff\xff", "x\x00y", strings.Repeat("a-", 40), strings.Repeat("\t \r\n", 40)}
	y := newTally()
	for _, names := range []string{"if word num quoted blank fold high", "high fold blank quoted num word if", "word if", "blank", "digit alpha blank"} {
		y.checkAll(t, s, list(names), api.Caps{Tree: 60, Nfa: 120, Dfa: 40}, texts...)
	}
	if y.tables != 5 {
		t.Error("so many tables:", y.tables, y.faults)
	}
}

// FuzzMake takes texts for a grammar and what is read, names, and caps.
func FuzzMake(f *testing.F) {
	f.Add("a = 1*3b / %x00-7F \"ab\"\nb = *%x30-39", "b a", "1234ab", 100)
	f.Add(example, "word if num sp", "if iffy 12", 16)
	f.Add("a = a", "a a", "", 0)
	f.Fuzz(func(t *testing.T, s, names, text string, cap int) {
		if len(s) < 200 && len(names) < 200 && len(text) < 60 {
			y := newTally()
			y.checkAll(t, s, strings.Split(names, " "), api.Caps{Tree: cap, Nfa: cap, Dfa: min(cap, 100)}, text)
		}
	})
}
