package abnf

import (
	"reflect"
	"slices"
	"strings"
	"testing"

	"franking/api"
	"franking/lex"
)

func named(text string) api.Tree { return api.Tree{Kind: api.TreeName, Text: text} }

func chars(text string) api.Tree { return api.Tree{Kind: api.TreeChars, Text: text} }

func values(text string) api.Tree { return api.Tree{Kind: api.TreeBytes, Text: text} }

func span(lo, hi uint8) api.Tree { return api.Tree{Kind: api.TreeRange, Lo: lo, Hi: hi} }

func row(kids ...api.Tree) api.Tree { return api.Tree{Kind: api.TreeRow, Kids: kids} }

func or(kids ...api.Tree) api.Tree { return api.Tree{Kind: api.TreeOr, Kids: kids} }

func times(least, most int, kid api.Tree) api.Tree {
	return api.Tree{Kind: api.TreeTimes, Min: least, Max: most, Kids: []api.Tree{kid}}
}

// about answers a tree in so many others.
func about(many int, t api.Tree, wrap func(api.Tree) api.Tree) api.Tree {
	for range many {
		t = wrap(t)
	}
	return t
}

func twice(t api.Tree) api.Tree { return times(2, 2, t) }

// parseText answers what Parse tells of a text that layer 1 has no fault with.
func parseText(t *testing.T, s string) ([]api.Rule, int, api.Errno) {
	t.Helper()
	toks, at, err := lex.Lex(s)
	if err != api.OK {
		t.Fatalf("%.60q is cut into no tokens: %d at %d", s, err, at)
	}
	return Parse(toks)
}

func wantRules(t *testing.T, s string, want ...api.Rule) {
	t.Helper()
	got, at, err := parseText(t, s)
	if err != api.OK || at != 0 || len(got) != len(want) || len(want) > 0 && !reflect.DeepEqual(got, want) {
		t.Errorf("%.60q:\n got %+v, %d, %d\nwant %+v, 0, 0", s, got, at, err, want)
	}
}

// wantTree is wantRules of a rule a.
func wantTree(t *testing.T, s string, want api.Tree) {
	t.Helper()
	wantRules(t, "a = "+s, api.Rule{Name: "a", Tree: want})
}

func wantErr(t *testing.T, s string, at int, err api.Errno) {
	t.Helper()
	got, gotAt, gotErr := parseText(t, s)
	if gotErr != err || gotAt != at || len(got) != 0 {
		t.Errorf("%.60q: got %+v, %d, %d; want nothing, %d, %d", s, got, gotAt, gotErr, at, err)
	}
}

func wantText(t *testing.T, tree api.Tree, want string) {
	t.Helper()
	got, err := Print(api.Rule{Name: "a", Tree: tree})
	if err != api.OK || got != "a = "+want {
		t.Errorf("the text of %+v: got %q, %d; want %q", tree, got, err, "a = "+want)
	}
}

func wantNoText(t *testing.T, r api.Rule) {
	t.Helper()
	if got, err := Print(r); err != api.ErrArg || got != "" {
		t.Errorf("Print(%+v): got %q, %d; want nothing, ErrArg", r, got, err)
	}
}

// P2.1, P2.2: the chapter's examples.
func TestExamples(t *testing.T) {
	b, c, d := named("b"), named("c"), named("d")
	first := or(times(1, 3, b), times(0, 1, row(chars("x"), values("A"))))
	wantTree(t, `1*3b / ["x" %x41]`, first)
	wantText(t, first, `1*3b / *1("x" %x41)`)
	wantTree(t, "(b)", b)
	wantTree(t, "((b / c) d)", row(or(b, c), d))
	wantText(t, row(or(b, c), d), "(b / c) d")
	wantErr(t, "a = ", 4, api.ErrGram)
	wantErr(t, "a = (b", 6, api.ErrGram)
	wantErr(t, "a b", 2, api.ErrGram)
	wantRules(t, "A = B", api.Rule{Name: "a", Tree: b})
}

// P2.2: what choices, rows, parts and things mean.
func TestMeanings(t *testing.T) {
	b, c, d, e := named("b"), named("c"), named("d"), named("e")
	wantTree(t, "b / c", or(b, c))
	wantTree(t, "b / c / d", or(b, c, d))
	wantTree(t, "b c", row(b, c))
	wantTree(t, "b c d", row(b, c, d))
	wantTree(t, "b c / d e", or(row(b, c), row(d, e)))
	wantTree(t, "b / c d / e", or(b, row(c, d), e))
	wantTree(t, "(b / c) / d", or(or(b, c), d))
	wantTree(t, "b / (c / d)", or(b, or(c, d)))
	wantTree(t, "b / (c d)", or(b, row(c, d)))
	wantTree(t, "(b c) d", row(row(b, c), d))
	wantTree(t, "b (c d) e", row(b, row(c, d), e))
	wantTree(t, "b (c / d) e", row(b, or(c, d), e))
	wantTree(t, "B-1Z", named("b-1z"))
	wantTree(t, `"Xy z"`, chars("Xy z"))
	wantTree(t, `""`, chars(""))
	wantTree(t, "%x00", values("\x00"))
	wantTree(t, "%d65.10.255", values("A\n\xff"))
	wantTree(t, "%x00-FF", span(0, 255))
	wantTree(t, "%x00-00", span(0, 0))
	wantTree(t, "[b]", times(0, 1, b))
	wantTree(t, "[b c / d]", times(0, 1, or(row(b, c), d)))
	wantTree(t, "[[b]]", times(0, 1, times(0, 1, b)))
	wantTree(t, "[(b)] ([c])", row(times(0, 1, b), times(0, 1, c)))
}

// P2.2: what a TokTimes ahead of each thing means.
func TestTimes(t *testing.T) {
	b, c, d := named("b"), named("c"), named("d")
	wantTree(t, "*b", times(0, -1, b))
	wantTree(t, "0b", times(0, 0, b))
	wantTree(t, "*0b", times(0, 0, b))
	wantTree(t, "1b", times(1, 1, b))
	wantTree(t, "1*b", times(1, -1, b))
	wantTree(t, "*1b", times(0, 1, b))
	wantTree(t, "9999*9999b", times(9999, 9999, b))
	wantTree(t, "0*9999b", times(0, 9999, b))
	wantTree(t, `2"x"`, times(2, 2, chars("x")))
	wantTree(t, "2%x41.42", times(2, 2, values("AB")))
	wantTree(t, "2%x41-42", times(2, 2, span(65, 66)))
	wantTree(t, "2(b)", times(2, 2, b))
	wantTree(t, "2(b c / d)", times(2, 2, or(row(b, c), d)))
	wantTree(t, "2[b]", times(2, 2, times(0, 1, b)))
	wantTree(t, "2(3b)", times(2, 2, times(3, 3, b)))
	wantTree(t, "(2b)", times(2, 2, b))
	wantTree(t, "2((3[4b]) 5c)", times(2, 2, row(times(3, 3, times(0, 1, times(4, 4, b))), times(5, 5, c))))
	wantTree(t, "2b 3c / 4d", or(row(times(2, 2, b), times(3, 3, c)), times(4, 4, d)))
}

// P2.2: rules, one behind the other: their names, places, and whether they are more.
func TestRules(t *testing.T) {
	wantRules(t, "")
	wantRules(t, "; nothing")
	b, c := named("b"), named("c")
	wantRules(t, "a =/ b", api.Rule{Name: "a", More: true, Tree: b})
	wantRules(t, "\n\nA-B9Z = b", api.Rule{Name: "a-b9z", At: 2, Tree: b})
	wantRules(t, "x = b\r\n\r\nX =/ C /\n b\ny = x",
		api.Rule{Name: "x", Tree: b}, api.Rule{Name: "x", At: 9, More: true, Tree: or(c, b)}, api.Rule{Name: "y", At: 21, Tree: named("x")})
	wantRules(t, "a = a\na = a", api.Rule{Name: "a", Tree: named("a")}, api.Rule{Name: "a", At: 6, Tree: named("a")})
}

// P2.2: ErrGram at the first token that does not fit.
func TestMisfits(t *testing.T) {
	wantErr(t, "a", 1, api.ErrGram)
	wantErr(t, "a =/", 4, api.ErrGram)
	wantErr(t, "a = = b", 4, api.ErrGram)
	wantErr(t, "a = b = c", 6, api.ErrGram)
	wantErr(t, "a = b =/ c", 6, api.ErrGram)
	wantErr(t, "a / b", 2, api.ErrGram)
	wantErr(t, "a ( = b", 2, api.ErrGram)
	wantErr(t, "a 2 = b", 2, api.ErrGram)
	wantErr(t, "a = / b", 4, api.ErrGram)
	wantErr(t, "a = b / / c", 8, api.ErrGram)
	wantErr(t, "a = b /", 7, api.ErrGram)
	wantErr(t, "a = ()", 5, api.ErrGram)
	wantErr(t, "a = []", 5, api.ErrGram)
	wantErr(t, "a = b ( / c)", 8, api.ErrGram)
	wantErr(t, "a = (b / ) c", 9, api.ErrGram)
	wantErr(t, "a = (b]", 6, api.ErrGram)
	wantErr(t, "a = [b)", 6, api.ErrGram)
	wantErr(t, "a = ([b)]", 7, api.ErrGram)
	wantErr(t, "a = b)", 5, api.ErrGram)
	wantErr(t, "a = b] c", 5, api.ErrGram)
	wantErr(t, "a = (b))", 7, api.ErrGram)
	wantErr(t, "a = [b", 6, api.ErrGram)
	wantErr(t, "a = (", 5, api.ErrGram)
	wantErr(t, "a = 2", 5, api.ErrGram)
	wantErr(t, "a = 2 3b", 6, api.ErrGram)
	wantErr(t, "a = **b", 5, api.ErrGram)
	wantErr(t, "a = 2 / b", 6, api.ErrGram)
	wantErr(t, "a = (2)", 6, api.ErrGram)
	wantErr(t, "a = b 2", 7, api.ErrGram)
	wantErr(t, "a = (b\nc = d)", 7, api.ErrGram)
	wantErr(t, "a = b\nc d = )", 8, api.ErrGram)
	wantErr(t, "a = )\nc = (", 4, api.ErrGram)
}

// P2.2: a tree that is 100 deep, and one that is deeper, by each kind of tree; brackets alone are not deep.
func TestDeep(t *testing.T) {
	for _, c := range []struct {
		open, shut string
		wrap       func(api.Tree) api.Tree
	}{
		{"2(", ")", twice},
		{"[", "]", func(in api.Tree) api.Tree { return times(0, 1, in) }},
		{"(c ", ")", func(in api.Tree) api.Tree { return row(named("c"), in) }},
		{"(", " c)", func(in api.Tree) api.Tree { return row(in, named("c")) }},
		{"(c / ", ")", func(in api.Tree) api.Tree { return or(named("c"), in) }},
		{"(((", " / c)))", func(in api.Tree) api.Tree { return or(in, named("c")) }},
	} {
		nested := func(many int) string {
			return strings.Repeat(c.open, many) + "b" + strings.Repeat(c.shut, many)
		}
		wantTree(t, nested(99), about(99, named("b"), c.wrap))
		wantErr(t, "a = "+nested(100), 0, api.ErrDeep)
		wantErr(t, "a = "+nested(5000), 0, api.ErrDeep)
		wantErr(t, "a = b\n\n c\n\nd = "+nested(100), 11, api.ErrDeep)
	}
	// 99 about the kid, of a rule whose tree is one deeper still.
	wantErr(t, "a = c "+strings.Repeat("2(", 99)+"b"+strings.Repeat(")", 99), 0, api.ErrDeep)
	wantErr(t, "a = c / "+strings.Repeat("[", 99)+"b"+strings.Repeat("]", 99), 0, api.ErrDeep)
	many := 1 << 15
	wantTree(t, strings.Repeat("(", many-3)+"b"+strings.Repeat(")", many-3), named("b"))
	wantErr(t, "a = "+strings.Repeat("(", many), 4+many, api.ErrGram)
}

// P2.2: of the first rule that has an error ErrGram ahead of ErrDeep; of an earlier rule either one ahead of a later one's.
func TestFirstError(t *testing.T) {
	deep := strings.Repeat("[", 100) + "b" + strings.Repeat("]", 100)
	wantErr(t, "a = "+deep+" =", 206, api.ErrGram)
	wantErr(t, "a = / "+deep, 4, api.ErrGram)
	wantErr(t, "a = "+deep+"\nb = /", 0, api.ErrDeep)
	wantErr(t, "a = /\nb = "+deep, 4, api.ErrGram)
	wantErr(t, "a = b\nc = "+deep+"\nd = "+deep, 6, api.ErrDeep)
	wantErr(t, "a = b\nc = "+deep+"\nd e", 6, api.ErrDeep)
}

// tok is a token at a place; of the others there are its fields alone.
func tok(kind uint8, at int) api.Tok { return api.Tok{Kind: kind, At: at} }

func nameAt(at int, text string) api.Tok { return api.Tok{Kind: api.TokName, At: at, Text: text} }

func wantFault(t *testing.T, at int, err api.Errno, toks ...api.Tok) {
	t.Helper()
	got, gotAt, gotErr := Parse(toks)
	if gotErr != err || gotAt != at || len(got) != 0 {
		t.Errorf("Parse(%.300v): got %+v, %d, %d; want nothing, %d, %d", toks, got, gotAt, gotErr, at, err)
	}
}

// P2.2: tokens that end too early: at the last one's place.
func TestNoMoreTokens(t *testing.T) {
	whole := []api.Tok{
		nameAt(3, "a"), tok(api.TokIs, 5), {Kind: api.TokTimes, At: 7, Min: 1, Max: 2}, tok(api.TokOpen, 9), nameAt(11, "b"), tok(api.TokOr, 13),
		tok(api.TokMay, 15), nameAt(17, "c"), tok(api.TokDone, 19), tok(api.TokShut, 21), tok(api.TokEnd, 23),
	}
	for many := 1; many < len(whole); many++ {
		wantFault(t, whole[many-1].At, api.ErrGram, whole[:many]...)
		wantFault(t, whole[many-1].At, api.ErrGram, slices.Concat(whole, whole[:many])...)
	}
	if got, at, err := Parse(slices.Concat(whole, whole)); err != api.OK || at != 0 || len(got) != 2 || got[1].At != 3 {
		t.Error(got, at, err)
	}
	for _, none := range [][]api.Tok{nil, {}} {
		if got, at, err := Parse(none); err != api.OK || at != 0 || len(got) != 0 {
			t.Error(got, at, err)
		}
	}
}

// P2.2: tokens that layer 1 does not make: of kinds that there are not, or whose meaning is not right.
func TestWrongTokens(t *testing.T) {
	var wrong []api.Tok
	for kind := range 256 {
		if kind < int(api.TokName) || kind > int(api.TokEnd) {
			wrong = append(wrong, api.Tok{Kind: uint8(kind), Text: "b"})
		}
	}
	for _, s := range []string{"", "1", "-", "1b", "-b", "b_", "b c", "b\n", "\x00", "bé", "\xff", "b\x7f", "\u212a", "b\u212a"} {
		wrong = append(wrong, api.Tok{Kind: api.TokName, Text: s})
	}
	for _, s := range []string{"\"", "b\"", "\n", "b\x1f", "\x7f", "\xff", "é", "\x00"} {
		wrong = append(wrong, api.Tok{Kind: api.TokChars, Text: s})
	}
	wrong = append(wrong, api.Tok{Kind: api.TokBytes}, api.Tok{Kind: api.TokRange, Lo: 1}, api.Tok{Kind: api.TokRange, Lo: 255, Hi: 254})
	for _, p := range [][2]int{{-1, 0}, {-1, -1}, {0, -2}, {1, 0}, {9999, 9998}, {10000, 10000}, {10000, -1}, {0, 10000}, {-1 << 63, 1<<63 - 1}} {
		wrong = append(wrong, api.Tok{Kind: api.TokTimes, Min: p[0], Max: p[1]})
	}
	a, is, b, end := nameAt(1, "a"), tok(api.TokIs, 3), nameAt(7, "b"), tok(api.TokEnd, 9)
	for _, w := range wrong {
		w.At = 5
		wantFault(t, 5, api.ErrGram, a, is, w, b, end)
		wantFault(t, 5, api.ErrGram, a, is, b, w, b, end)
		wantFault(t, 5, api.ErrGram, a, is, tok(api.TokMay, 4), w, b, tok(api.TokDone, 8), end)
		wantFault(t, 5, api.ErrGram, a, is, b, end, w, is, b, end)
		wantFault(t, 5, api.ErrGram, a, w, b, end)
		wantFault(t, 5, api.ErrGram, w)
	}
	for _, kind := range []uint8{api.TokIs, api.TokMore, api.TokOr, api.TokOpen, api.TokShut, api.TokMay, api.TokDone, api.TokTimes, api.TokChars, api.TokBytes, api.TokRange, api.TokEnd} {
		wantFault(t, 5, api.ErrGram, api.Tok{Kind: kind, At: 5, Text: "a"}, is, b, end)
	}
}

// P2.2: places are taken as they are told; fields that say nothing of a token's kind mean nothing.
func TestOddTokens(t *testing.T) {
	noise := func(tok api.Tok) api.Tok { tok.Min, tok.Max = 7, -7; return tok }
	toks := []api.Tok{
		noise(nameAt(-5, "A")), noise(tok(api.TokMore, -5)), {Kind: api.TokTimes, Text: "x", Min: 2, Max: 3, Lo: 9}, noise(api.Tok{Kind: api.TokOpen, Text: "x"}),
		noise(api.Tok{Kind: api.TokRange, Text: "x", Hi: 1}), noise(api.Tok{Kind: api.TokChars, Text: "X", Hi: 1}), noise(api.Tok{Kind: api.TokBytes, Text: "X", Lo: 1}),
		noise(tok(api.TokShut, 0)), noise(tok(api.TokEnd, -9)),
	}
	want := []api.Rule{{Name: "a", At: -5, More: true, Tree: times(2, 3, row(span(0, 1), chars("X"), values("X")))}}
	if got, at, err := Parse(toks); err != api.OK || at != 0 || !reflect.DeepEqual(got, want) {
		t.Errorf("got %+v, %d, %d; want %+v", got, at, err, want)
	}
	wantFault(t, -5, api.ErrGram, nameAt(-5, "a"))
	wantFault(t, -9, api.ErrGram, nameAt(-5, "a"), tok(api.TokEnd, -9))
}

// Brackets nested as deep as no text can have them: the call ends.
func TestNestedBrackets(t *testing.T) {
	const many = 1 << 17
	toks := []api.Tok{nameAt(1, "a"), tok(api.TokIs, 2)}
	toks = append(toks, slices.Repeat([]api.Tok{tok(api.TokOpen, 3)}, many)...)
	wantFault(t, 3, api.ErrGram, toks...)
	toks = append(toks, nameAt(4, "b"))
	toks = append(toks, slices.Repeat([]api.Tok{tok(api.TokShut, 5)}, many)...)
	wantFault(t, 5, api.ErrGram, toks...)
	toks = append(toks, tok(api.TokEnd, 6))
	if got, at, err := Parse(toks); err != api.OK || at != 0 || len(got) != 1 || !reflect.DeepEqual(got[0].Tree, named("b")) {
		t.Error(len(got), at, err)
	}
	for i := range toks {
		switch toks[i].Kind {
		case api.TokOpen:
			toks[i].Kind = api.TokMay
		case api.TokShut:
			toks[i].Kind = api.TokDone
		}
	}
	wantFault(t, 1, api.ErrDeep, toks...)
}

// What is handed in is not changed, its spare room neither; what is handed out is new.
func TestMemory(t *testing.T) {
	toks, _, _ := lex.Lex("A = 2(B / c d) [\"X\" / %x41.42]\nb =/ c / d / e f g")
	spare := append(slices.Clone(toks), nameAt(9, "spare"))
	kept := slices.Clone(spare)
	first, _, _ := Parse(spare[:len(toks)])
	if !slices.Equal(spare, kept) {
		t.Error("Parse changed what it was handed")
	}
	want, _, _ := Parse(toks)
	spoil(first)
	if again, _, err := Parse(toks); err != api.OK || !reflect.DeepEqual(again, want) {
		t.Error("Parse kept what it handed out")
	}
	lists := map[*api.Tree]int{}
	for _, r := range want {
		countLists(r.Tree, lists)
	}
	for _, many := range lists {
		if many != 1 {
			t.Error("two lists of kids share memory")
		}
	}
	tree := or(twice(row(named("b"), chars("x"))), values("y"))
	before := or(twice(row(named("b"), chars("x"))), values("y"))
	if _, err := Print(api.Rule{Name: "a", Tree: tree}); err != api.OK || !Right(tree) || !reflect.DeepEqual(tree, before) {
		t.Error("Print or Right changed what they were handed")
	}
}

// spoil changes all that there is in rules, and in the spare room of their lists.
func spoil(l []api.Rule) {
	var trees func(l []api.Tree)
	trees = func(l []api.Tree) {
		for i := range l {
			trees(l[i].Kids)
		}
		clear(l[:cap(l)])
	}
	for i := range l {
		trees(l[i].Tree.Kids)
	}
	clear(l[:cap(l)])
}

// countLists counts by the address of their first element how often lists of kids are there.
func countLists(t api.Tree, lists map[*api.Tree]int) {
	if cap(t.Kids) > 0 {
		lists[&t.Kids[:1][0]]++
	}
	for _, kid := range t.Kids {
		countLists(kid, lists)
	}
}
