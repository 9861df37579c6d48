package regex

import (
	"math/big"
	"math/rand"
	"reflect"
	"regexp"
	"strconv"
	"strings"
	"testing"

	"franking/abnf"
	"franking/api"
	"franking/lex"
	"franking/rules"
)

// The chapter's words once more, as plainly as may be, to hold the package against.

func plainRow(l []api.Re) api.Re {
	switch len(l) {
	case 0:
		return empty
	case 1:
		return l[0]
	}
	return cat(l...)
}

// plainOften answers, as a list of one or none, what is as often as k, of r.
func plainOften(k int, r api.Re) []api.Re {
	if k == 0 {
		return nil
	}
	return []api.Re{alt(empty, plainRow(append([]api.Re{r}, plainOften(k-1, r)...)))}
}

func plainText(s string, letters bool) api.Re {
	var l []api.Re
	for i := range len(s) {
		one := s[i : i+1]
		if letters {
			one = strings.ToUpper(one) + strings.ToLower(one)
		}
		l = append(l, set(one))
	}
	return plainRow(l)
}

func plainKids(trees map[string]api.Tree, t api.Tree) []api.Re {
	var l []api.Re
	for _, kid := range t.Kids {
		l = append(l, plainRe(trees, kid))
	}
	return l
}

// plainRe answers the regular tree of a tree; trees are those of the rules, by their names.
func plainRe(trees map[string]api.Tree, t api.Tree) api.Re {
	switch t.Kind {
	case api.TreeName:
		return plainRe(trees, trees[t.Text])
	case api.TreeChars:
		return plainText(t.Text, true)
	case api.TreeBytes:
		return plainText(t.Text, false)
	case api.TreeRange:
		return set(bytesFrom(int(t.Lo), int(t.Hi)))
	case api.TreeRow:
		return plainRow(plainKids(trees, t))
	case api.TreeOr:
		return alt(plainKids(trees, t)...)
	}
	if t.Max == 0 {
		return empty // Its kid may be greater than can be made.
	}
	var l []api.Re
	for range t.Min {
		l = append(l, plainRe(trees, t.Kids[0]))
	}
	r := plainRe(trees, t.Kids[0])
	if t.Max == -1 {
		return plainRow(append(l, star(r)))
	}
	return plainRow(append(l, plainOften(t.Max-t.Min, r)...))
}

// plainSize answers the size of the regular tree of a tree, whatever it is: how many trees a row has, and how many nodes these have.
func plainSize(trees map[string]api.Tree, t api.Tree) *big.Int {
	row := func(many int, nodes *big.Int) *big.Int {
		switch many {
		case 0:
			return big.NewInt(1)
		case 1:
			return nodes
		}
		return nodes.Add(nodes, big.NewInt(1))
	}
	kids := big.NewInt(0)
	for _, kid := range t.Kids {
		kids.Add(kids, plainSize(trees, kid))
	}
	switch t.Kind {
	case api.TreeName:
		return plainSize(trees, trees[t.Text])
	case api.TreeChars, api.TreeBytes:
		return row(len(t.Text), big.NewInt(int64(len(t.Text))))
	case api.TreeRange:
		return big.NewInt(1)
	case api.TreeRow:
		return row(len(t.Kids), kids)
	case api.TreeOr:
		return kids.Add(kids, big.NewInt(1))
	}
	sum := new(big.Int).Mul(kids, big.NewInt(int64(t.Min)))
	if t.Max == -1 {
		return row(t.Min+1, sum.Add(sum, kids.Add(kids, big.NewInt(1))))
	}
	if t.Max == t.Min {
		return row(t.Min, sum)
	}
	often := new(big.Int).Set(kids)
	often.Add(often, big.NewInt(2))
	for range t.Max - t.Min - 1 {
		often.Add(often, kids)
		often.Add(often, big.NewInt(3))
	}
	return row(t.Min+1, sum.Add(sum, often))
}

// places is those of a text up to which something has been derived, as bits.
type places uint64

// plainEnds answers the places at which the texts end that a tree derives, if they begin at one of some places of a text.
func plainEnds(trees map[string]api.Tree, t api.Tree, text string, from places) places {
	// behind goes on by one byte that is such a one.
	behind := func(from places, is func(b byte) bool) places {
		var out places
		for i := range len(text) {
			if from>>i&1 == 1 && is(text[i]) {
				out |= 2 << i
			}
		}
		return out
	}
	switch t.Kind {
	case api.TreeName:
		return plainEnds(trees, trees[t.Text], text, from)
	case api.TreeChars:
		for i := range len(t.Text) {
			from = behind(from, func(b byte) bool { return strings.EqualFold(string(rune(b)), t.Text[i:i+1]) })
		}
		return from
	case api.TreeBytes:
		for i := range len(t.Text) {
			from = behind(from, func(b byte) bool { return b == t.Text[i] })
		}
		return from
	case api.TreeRange:
		return behind(from, func(b byte) bool { return t.Lo <= b && b <= t.Hi })
	case api.TreeRow:
		for _, kid := range t.Kids {
			from = plainEnds(trees, kid, text, from)
		}
		return from
	case api.TreeOr:
		var out places
		for _, kid := range t.Kids {
			out |= plainEnds(trees, kid, text, from)
		}
		return out
	}
	most := t.Max
	if most == -1 {
		most = t.Min + len(text) + 1 // More often it comes to no other places.
	}
	var out places
	for many := range most + 1 {
		if many > 0 {
			from = plainEnds(trees, t.Kids[0], text, from)
		}
		if many >= t.Min {
			out |= from
		}
	}
	return out
}

func plainDerives(trees map[string]api.Tree, t api.Tree, text string) bool {
	return plainEnds(trees, t, text, 1)>>len(text)&1 == 1
}

// pattern answers a pattern, of the library, of the texts that a regular tree has; each byte is a rune in it.
func pattern(r api.Re) string {
	var kids []string
	for _, kid := range r.Kids {
		kids = append(kids, pattern(kid))
	}
	switch r.Kind {
	case api.ReSet:
		out := "["
		for _, b := range []byte(inSet(r.Set)) {
			out += `\x{` + strconv.FormatInt(int64(b), 16) + "}"
		}
		return out + "]"
	case api.ReCat:
		return "(?:" + strings.Join(kids, "") + ")"
	case api.ReAlt:
		return "(?:" + strings.Join(kids, "|") + ")"
	case api.ReStar:
		return "(?:" + kids[0] + ")*"
	}
	return "(?:)"
}

// runesOf answers a text in which each byte is a rune.
func runesOf(s string) string {
	var out []rune
	for i := range len(s) {
		out = append(out, rune(s[i]))
	}
	return string(out)
}

// textsOf answers all texts of some bytes that are at most so long.
func textsOf(some string, long int) []string {
	all := []string{""}
	for from := 0; len(all[len(all)-1]) < long; {
		to := len(all)
		for _, s := range all[from:to] {
			for i := range len(some) {
				all = append(all, s+some[i:i+1])
			}
		}
		from = to
	}
	return all
}

func treesByName(g api.Gram) map[string]api.Tree {
	trees := map[string]api.Tree{}
	for _, r := range g.Rules {
		trees[r.Name] = r.Tree
	}
	return trees
}

// tally counts what was looked at: answers by their errors, and texts that are had, or are not.
type tally struct {
	errs   map[api.Errno]int
	yes    int
	no     int
	longer int // texts that are had, of two bytes or more
}

// check holds Inline of each rule of a right grammar against the chapter's words, and P4.3.
func (y *tally) check(t testing.TB, g api.Gram, texts []string) {
	t.Helper()
	trees := treesByName(g)
	for _, rule := range g.Rules {
		size := plainSize(trees, rule.Tree)
		if size.Cmp(big.NewInt(api.MaxRe)) > 0 {
			y.want(t, g, rule.Name, api.MaxRe, empty, api.ErrCap)
			continue
		}
		most := int(size.Int64())
		want := plainRe(trees, rule.Tree)
		y.want(t, g, rule.Name, api.MaxRe, want, api.OK)
		y.want(t, g, rule.Name, most, want, api.OK)
		if most > 1 {
			y.want(t, g, rule.Name, most-1, empty, api.ErrCap)
		}
		if !Right(want) || Size(want) != most {
			t.Fatalf("%s = %s: right %v, size %d; want %d", rule.Name, text(t, rule), Right(want), Size(want), most)
		}
		y.checkTexts(t, trees, rule, want, texts)
	}
}

func (y *tally) want(t testing.TB, g api.Gram, name string, most int, want api.Re, wantErr api.Errno) {
	t.Helper()
	got, err := Inline(g, name, most)
	if err != wantErr || !reflect.DeepEqual(got, want) {
		t.Fatalf("%v, %s, %d: %.300s, %d; want %.300s, %d", g, name, most, shown(got), err, shown(want), wantErr)
	}
	y.errs[err]++
}

// checkTexts holds that a regular tree has just the texts that its rule derives.
func (y *tally) checkTexts(t testing.TB, trees map[string]api.Tree, rule api.Rule, r api.Re, texts []string) {
	t.Helper()
	if len(texts) == 0 || Size(r) > 300 {
		return
	}
	has := regexp.MustCompile(`\A` + pattern(r) + `\z`)
	for _, s := range texts {
		derived := plainDerives(trees, rule.Tree, s)
		if has.MatchString(runesOf(s)) != derived {
			t.Fatalf("%s: derives %q: %v, but %s does not tell so", text(t, rule), s, derived, shown(r))
		}
		switch {
		case !derived:
			y.no++
		case len(s) >= 2:
			y.longer++
			fallthrough
		default:
			y.yes++
		}
	}
}

// text answers a rule's text.
func text(t testing.TB, r api.Rule) string {
	t.Helper()
	s, err := abnf.Print(r)
	if err != api.OK {
		t.Fatalf("%+v has no text", r)
	}
	return s
}

func newTally() *tally { return &tally{errs: map[api.Errno]int{}} }

// enough holds that there was enough of all that is to be looked at.
func (y *tally) enough(t *testing.T) {
	t.Helper()
	if y.errs[api.OK] < 1000 || y.errs[api.ErrCap] < 100 || y.yes < 1000 || y.no < 1000 || y.longer < 500 {
		t.Errorf("hardly anything was looked at: %+v", *y)
	}
}

// P4.2, P4.3: all trees of few parts.
func TestShortTrees(t *testing.T) {
	leaves := []string{`""`, `"a"`, `"Ab"`, "%x61", "%x62.61", "%x41-61", "c"}
	texts := textsOf("aAb", 4)
	y := newTally()
	check := func(s string) {
		y.check(t, gathered(t, `a = `+s+`; c = %x62 / *"b" %x41`), texts)
	}
	var parts []string
	for _, leaf := range leaves {
		for least := range 4 {
			check(strconv.Itoa(least) + "*" + leaf)
			for most := least; most < 5; most++ {
				parts = append(parts, strconv.Itoa(least)+"*"+strconv.Itoa(most)+leaf)
			}
		}
	}
	for _, part := range parts {
		check(part)
		check("*(" + part + ")")
		check("2(" + part + ` / %x62)`)
	}
	for _, one := range leaves {
		for _, two := range leaves {
			for _, sign := range []string{" ", " / "} {
				both := one + sign + two
				for _, s := range []string{both, "*(" + both + ")", "[" + both + "]", "2(" + both + ")", "1*3(" + both + ")", "2(" + both + ") / " + one, two + " (" + both + ")"} {
					check(s)
				}
			}
		}
	}
	y.enough(t)
}

// randTree answers a tree's text of some of the names, at most so deep.
func randTree(r *rand.Rand, names string, deep int) string {
	if deep == 1 || r.Intn(4) == 0 {
		if i := r.Intn(len(names) + 2); i < len(names) {
			return names[i : i+1]
		}
		return []string{`"a"`, `"A1"`, "%x62", "%x61-7A", "%x61.62", `""`, "%x00-FF", "%x41-61"}[r.Intn(8)]
	}
	sides := []string{randTree(r, names, deep-1), randTree(r, names, deep-1)}
	switch r.Intn(4) {
	case 0:
		return "(" + strings.Join(sides, " / ") + ")"
	case 1:
		return "(" + strings.Join(sides, " ") + ")"
	case 2:
		return "[" + sides[0] + "]"
	}
	return []string{"2", "*", "0", "1", "1*", "*3", "2*4", "3*3", "40", "*200", "9999"}[r.Intn(11)] + "(" + sides[0] + ")"
}

// randGram answers a grammar of rules from a on, of which each one has names of later ones in it.
func randGram(t testing.TB, r *rand.Rand) api.Gram {
	all := "abcdef"[:1+r.Intn(6)]
	var lines []string
	for i := range all {
		lines = append(lines, all[i:i+1]+" = "+randTree(r, all[i+1:], 4))
	}
	r.Shuffle(len(lines), func(i, j int) { lines[i], lines[j] = lines[j], lines[i] })
	return gathered(t, strings.Join(lines, "; "))
}

// P4.2, P4.3: greater grammars.
func TestGreaterGrammars(t *testing.T) {
	r := rand.New(rand.NewSource(4))
	texts := append(textsOf("aAb", 3), textsOf("z1\x00\xe9", 2)...)
	y := newTally()
	for range 2000 {
		y.check(t, randGram(t, r), texts)
	}
	y.enough(t)
}

// P4.3: of bytes beyond letters, too, just those that are told.
func TestTextsOfAllBytes(t *testing.T) {
	var texts []string
	for b := range 256 {
		texts = append(texts, string([]byte{byte(b)}), string([]byte{byte(b), 'z'}))
	}
	y := newTally()
	for _, s := range []string{`"q"`, `"Q"`, `"@"`, `"["`, "%x00-FF", "%xE9", "%x80-BF", `*(%xE0-FF / "a") "Z"`, `[%x00] / 2"k"`, "*%x5A-61"} {
		y.check(t, gathered(t, "a = "+s), texts)
	}
	if y.yes < 300 || y.no < 300 {
		t.Errorf("hardly anything was looked at: %+v", *y)
	}
}

func FuzzInline(f *testing.F) {
	f.Add("a = b c\nb = \"x\"\nc = [b] / 2(b \"y\") 1*b %x61.62\na =/ *3c")
	f.Add("a = 9999(9999b)\nb = c / d\nd = 0(*a-1)\na-1 = 5*7%x61-7A\nc = \"\"")
	f.Fuzz(func(t *testing.T, s string) {
		toks, _, err := lex.Lex(s)
		if err != api.OK || len(s) > 300 {
			return
		}
		l, _, err := abnf.Parse(toks)
		if err != api.OK {
			return
		}
		if g, _, err := rules.Gather(l); err == api.OK {
			newTally().check(t, g, nil)
		}
	})
}
