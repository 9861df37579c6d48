package abnf

import (
	"math/rand"
	"reflect"
	"regexp"
	"slices"
	"strings"
	"testing"

	"franking/api"
	"franking/lex"
)

// wantBack holds that a rule's text, cut into tokens, is parsed as that rule.
func wantBack(t *testing.T, r api.Rule) {
	t.Helper()
	s, err := Print(r)
	if err != api.OK {
		t.Fatalf("Print(%+v): %d", r, err)
	}
	toks, at, err := lex.Lex(s)
	if len(s) > api.MaxGrammar {
		return // Layer 1 takes no such text.
	}
	if err != api.OK {
		t.Fatalf("%q is cut into no tokens: %d at %d", s, err, at)
	}
	// The text has the rule at its beginning, wherever it was told to be.
	r.At = 0
	if got, at, err := Parse(toks); err != api.OK || at != 0 || !reflect.DeepEqual(got, []api.Rule{r}) {
		t.Fatalf("%q:\n got %+v, %d, %d\nwant %+v", s, got, at, err, r)
	}
}

// grow answers all trees of two kids and of one that may be made of these.
func grow(trees []api.Tree) []api.Tree {
	out := slices.Clone(trees)
	for _, one := range trees {
		for _, two := range trees {
			out = append(out, row(one, two), or(one, two))
		}
		out = append(out, times(0, -1, one), times(0, 1, one), times(2, 2, one), times(3, 14, one))
	}
	return out
}

// P2.3: all small trees.
func TestSmallTreesBack(t *testing.T) {
	trees := grow(grow([]api.Tree{named("b"), chars("x"), values("\xaf\x00"), span(10, 255)}))
	for _, tree := range trees {
		wantBack(t, api.Rule{Name: "a", Tree: tree})
	}
	few := grow(grow(grow([]api.Tree{named("b")})))
	for _, tree := range few {
		wantBack(t, api.Rule{Name: "a-1", At: 7, More: true, Tree: tree})
	}
}

// P2.3: each byte as a leaf, and numbers at their edges.
func TestLeavesBack(t *testing.T) {
	for i := range 256 {
		b := byte(i)
		leaves := []api.Tree{values(string([]byte{b})), values(string([]byte{0, b, 255})), span(b, b), span(0, b), span(b, 255)}
		if b >= 32 && b <= 126 && b != '"' {
			leaves = append(leaves, chars(string([]byte{b})), chars(string([]byte{b, b, ' '})))
		}
		for _, leaf := range leaves {
			wantBack(t, api.Rule{Name: "a", Tree: leaf})
			wantBack(t, api.Rule{Name: "a", Tree: row(twice(leaf), or(leaf, leaf))})
		}
	}
	edges := []int{0, 1, 2, 9, 10, 99, 999, 1000, 9998, 9999}
	for _, least := range edges {
		wantBack(t, api.Rule{Name: "a", Tree: times(least, -1, named("b"))})
		for _, most := range edges {
			if least <= most {
				wantBack(t, api.Rule{Name: "a", Tree: row(times(least, most, named("b")), times(least, most, span(0, 1)))})
			}
		}
	}
	for _, s := range []string{"a", "z", "a-", "a--0", "x9", strings.Repeat("n", 30000)} {
		wantBack(t, api.Rule{Name: s, Tree: named(s)})
	}
}

// randText answers a text of at most that many bytes of an alphabet.
func randText(r *rand.Rand, alphabet string, most int) string {
	out := make([]byte, r.Intn(most+1))
	for i := range out {
		out[i] = alphabet[r.Intn(len(alphabet))]
	}
	return string(out)
}

func randLeaf(r *rand.Rand) api.Tree {
	switch r.Intn(4) {
	case 0:
		return named("b" + randText(r, "bcz019-", 5))
	case 1:
		return chars(randText(r, "aZ09 !#%()*-/;<=[]~", 6))
	case 2:
		return values("\x0a" + randText(r, "\x00\"aA\x7f\xff", 3))
	}
	lo := r.Intn(256)
	return span(uint8(lo), uint8(lo+r.Intn(256-lo)))
}

// randTree answers a tree at most so deep.
func randTree(r *rand.Rand, deep int) api.Tree {
	if deep == 1 || r.Intn(4) == 0 {
		return randLeaf(r)
	}
	if r.Intn(3) == 0 {
		counts := [][2]int{{0, 1}, {0, -1}, {1, -1}, {0, 0}, {3, 3}, {2, 9999}}
		c := counts[r.Intn(len(counts))]
		return times(c[0], c[1], randTree(r, deep-1))
	}
	var kids []api.Tree
	for range 2 + r.Intn(3) {
		kids = append(kids, randTree(r, deep-1))
	}
	if r.Intn(2) == 0 {
		return row(kids...)
	}
	return or(kids...)
}

// P2.3: greater trees, up to the deepest ones.
func TestGreaterTreesBack(t *testing.T) {
	r := rand.New(rand.NewSource(1))
	for range 3000 {
		tree := randTree(r, 7)
		wantBack(t, api.Rule{Name: "a", More: r.Intn(2) == 0, Tree: tree})
		deep := about(93, tree, func(in api.Tree) api.Tree {
			return []api.Tree{twice(in), row(in, named("c")), or(named("c"), in)}[r.Intn(3)]
		})
		wantBack(t, api.Rule{Name: "a", Tree: deep})
	}
}

// speller spells trees as tokens, now in this way, now in that one.
type speller struct {
	r    *rand.Rand
	toks []api.Tok
}

func (s *speller) put(tok api.Tok) {
	tok.At = 2 * len(s.toks)
	s.toks = append(s.toks, tok)
}

// spell puts down a tree's tokens; bare tells which kinds need no brackets there.
func (s *speller) spell(t api.Tree, bare ...uint8) {
	optional := t.Kind == api.TreeTimes && t.Min == 0 && t.Max == 1
	switch {
	case optional && s.r.Intn(2) == 0:
		s.put(api.Tok{Kind: api.TokMay})
		s.spell(t.Kids[0], api.TreeTimes, api.TreeRow, api.TreeOr)
		s.put(api.Tok{Kind: api.TokDone})
	case t.Kind >= api.TreeRow && !slices.Contains(bare, t.Kind) || s.r.Intn(6) == 0:
		s.put(api.Tok{Kind: api.TokOpen})
		s.spell(t, api.TreeTimes, api.TreeRow, api.TreeOr)
		s.put(api.Tok{Kind: api.TokShut})
	case t.Kind == api.TreeTimes:
		s.put(api.Tok{Kind: api.TokTimes, Min: t.Min, Max: t.Max})
		s.spell(t.Kids[0])
	case t.Kind == api.TreeRow:
		for _, kid := range t.Kids {
			s.spell(kid, api.TreeTimes)
		}
	case t.Kind == api.TreeOr:
		for i, kid := range t.Kids {
			if i > 0 {
				s.put(api.Tok{Kind: api.TokOr})
			}
			s.spell(kid, api.TreeTimes, api.TreeRow)
		}
	default:
		s.put(s.leaf(t))
	}
}

func (s *speller) leaf(t api.Tree) api.Tok {
	kinds := map[uint8]uint8{api.TreeName: api.TokName, api.TreeChars: api.TokChars, api.TreeBytes: api.TokBytes, api.TreeRange: api.TokRange}
	text := t.Text
	if t.Kind == api.TreeName && s.r.Intn(2) == 0 {
		text = strings.ToUpper(text)
	}
	return api.Tok{Kind: kinds[t.Kind], Text: text, Lo: t.Lo, Hi: t.Hi}
}

// P2.2, P2.3: however a tree is spelt, with whatever brackets more, it is that tree; of several rules, each.
func TestSpellings(t *testing.T) {
	r := rand.New(rand.NewSource(2))
	for range 5000 {
		s := speller{r: r}
		var want []api.Rule
		for range 1 + r.Intn(3) {
			rule := api.Rule{Name: "a-b", At: 2 * len(s.toks), More: r.Intn(2) == 0, Tree: randTree(r, 5)}
			want = append(want, rule)
			s.put(api.Tok{Kind: api.TokName, Text: "A-b"})
			sign := api.TokIs
			if rule.More {
				sign = api.TokMore
			}
			s.put(api.Tok{Kind: sign})
			s.spell(rule.Tree, api.TreeTimes, api.TreeRow, api.TreeOr)
			s.put(api.Tok{Kind: api.TokEnd})
		}
		got, at, err := Parse(s.toks)
		if err != api.OK || at != 0 || !reflect.DeepEqual(got, want) {
			t.Fatalf("%v:\n got %+v, %d, %d\nwant %+v", s.toks, got, at, err, want)
		}
		checkFollows(t, s.toks, got)
		checkBrackets(t, s.toks)
	}
}

// checkFollows holds P2.3 of tokens that were parsed as these rules: they are right, their texts are them, their leaves the tokens.
func checkFollows(t *testing.T, toks []api.Tok, rules []api.Rule) {
	t.Helper()
	for _, rule := range rules {
		if !Right(rule.Tree) || !plainKinds[api.TreeName].text.MatchString(rule.Name) {
			t.Fatalf("%+v is not right", rule)
		}
		wantBack(t, rule)
		var want []api.Tree
		behind := 2 + slices.IndexFunc(toks, func(tok api.Tok) bool { return tok.Kind == api.TokName })
		end := slices.IndexFunc(toks, func(tok api.Tok) bool { return tok.Kind == api.TokEnd })
		for _, tok := range toks[behind:end] {
			switch tok.Kind {
			case api.TokName:
				want = append(want, named(strings.ToLower(tok.Text)))
			case api.TokChars:
				want = append(want, chars(tok.Text))
			case api.TokBytes:
				want = append(want, values(tok.Text))
			case api.TokRange:
				want = append(want, span(tok.Lo, tok.Hi))
			}
		}
		if got := leavesOf(rule.Tree); !reflect.DeepEqual(got, want) {
			t.Fatalf("%v has the leaves %+v", toks, got)
		}
		toks = toks[end+1:]
	}
}

func leavesOf(t api.Tree) []api.Tree {
	if t.Kind < api.TreeRow {
		return []api.Tree{t}
	}
	var out []api.Tree
	for _, kid := range t.Kids {
		out = append(out, leavesOf(kid)...)
	}
	return out
}

// checkBrackets holds P2.3: brackets more about choices that stand in brackets, or about all of them, change nothing.
func checkBrackets(t *testing.T, toks []api.Tok) {
	t.Helper()
	open, shut := api.Tok{Kind: api.TokOpen}, api.Tok{Kind: api.TokShut}
	var out []api.Tok
	for _, tok := range toks {
		switch tok.Kind {
		case api.TokIs, api.TokMore, api.TokOpen, api.TokMay:
			out = append(out, tok, open)
		case api.TokEnd, api.TokShut, api.TokDone:
			out = append(out, shut, tok)
		default:
			out = append(out, tok)
		}
	}
	want, _, _ := Parse(toks)
	if got, at, err := Parse(out); err != api.OK || at != 0 || !reflect.DeepEqual(got, want) {
		t.Fatalf("%v with brackets more: %+v, %d, %d", toks, got, at, err)
	}
}

// The table of tokens once more, written as patterns of one letter a token: n a name, c another leaf, i = and =/, o /, t how often, e an end, brackets themselves.
var (
	oneRow     = `(?:t?[nc])+`
	anyChoices = oneRow + `(?:o` + oneRow + `)*`
	inBrackets = regexp.MustCompile(`\(` + anyChoices + `\)|\[` + anyChoices + `\]`)
	onlyRules  = regexp.MustCompile(`^(?:ni` + anyChoices + `e)*$`)
)

// plainRules tells whether tokens are rules: what stands in brackets is as good as a leaf.
func plainRules(s string) bool {
	for inBrackets.MatchString(s) {
		s = inBrackets.ReplaceAllString(s, "c")
	}
	return onlyRules.MatchString(s)
}

// fits tells whether tokens begin rules, so that there is something by which they are rules.
func fits(s string) bool {
	shuts := ""
	for _, b := range s {
		switch b {
		case '(':
			shuts = ")" + shuts
		case '[':
			shuts = "]" + shuts
		case ')', ']':
			if !strings.HasPrefix(shuts, string(b)) {
				return false
			}
			shuts = shuts[1:]
		}
	}
	for _, more := range []string{"", "c", "ic", "nic"} {
		if plainRules(s + more + shuts + "e") {
			return true
		}
	}
	return plainRules(s)
}

// kindsOf answers tokens by their letters, each at a place of its own.
func kindsOf(s string) []api.Tok {
	kinds := map[rune]api.Tok{
		'n': {Kind: api.TokName, Text: "n"}, 'c': {Kind: api.TokChars, Text: "c"}, 'i': {Kind: api.TokIs}, 'o': {Kind: api.TokOr}, 't': {Kind: api.TokTimes, Min: 1, Max: -1},
		'e': {Kind: api.TokEnd}, '(': {Kind: api.TokOpen}, ')': {Kind: api.TokShut}, '[': {Kind: api.TokMay}, ']': {Kind: api.TokDone},
	}
	var out []api.Tok
	for i, b := range s {
		tok := kinds[b]
		tok.At = 10 * (i + 1)
		out = append(out, tok)
	}
	return out
}

// P2.2: all short lists of tokens that fit, and each token that does not fit behind them.
func TestShortLists(t *testing.T) {
	many := map[api.Errno]int{}
	var grow func(s string)
	grow = func(s string) {
		got, at, err := Parse(kindsOf(s))
		many[err]++
		switch {
		case plainRules(s):
			if err != api.OK || at != 0 || len(got) != strings.Count(s, "e") {
				t.Fatalf("%q: %+v, %d, %d", s, got, at, err)
			}
		case err != api.ErrGram || at != 10*len(s) || len(got) != 0:
			t.Fatalf("%q: %+v, %d, %d; want ErrGram at %d", s, got, at, err, 10*len(s))
		}
		if len(s) == 8 {
			return
		}
		for _, b := range "ncioet()[]" {
			next := s + string(b)
			if fits(next) {
				grow(next)
				continue
			}
			for _, behind := range []string{"", "n", "e", "ice", "nice"} {
				if got, at, err := Parse(kindsOf(next + behind)); err != api.ErrGram || at != 10*len(next) || len(got) != 0 {
					t.Fatalf("%q: %+v, %d, %d; want ErrGram at %d", next+behind, got, at, err, 10*len(next))
				}
			}
		}
	}
	grow("")
	if many[api.OK] < 100 || many[api.ErrGram] < 100 {
		t.Error("hardly any lists were looked at:", many)
	}
}

func FuzzParse(f *testing.F) {
	f.Add("a = 1*3b / [\"x\" %x41]\nC =/ (d / 2(e f)) %d1-2 [[*g]]")
	f.Add("a = (b\n c)) / d")
	f.Fuzz(func(t *testing.T, s string) {
		toks, _, err := lex.Lex(s)
		if err != api.OK {
			return
		}
		rules, at, err := Parse(toks)
		switch {
		case err == api.OK:
			checkFollows(t, toks, rules)
			checkBrackets(t, toks)
		case len(rules) != 0 || err != api.ErrGram && err != api.ErrDeep || !slices.ContainsFunc(toks, func(tok api.Tok) bool { return tok.At == at }):
			t.Fatalf("%q: %+v, %d, %d", s, rules, at, err)
		}
	})
}
