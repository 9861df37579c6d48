package derive

import (
	"maps"
	"math/rand"
	"regexp"
	"slices"
	"strconv"
	"strings"
	"testing"

	"franking/abnf"
	"franking/api"
	"franking/lex"
	"franking/rules"
)

// The chapter's table once more: not by the places of a text, but by the texts themselves.

// texts is some texts, none of them longer than is looked at.
type texts map[string]bool

// plain knows the trees of rules by their names, the bytes that texts are made of, and how long they are at most.
type plain struct {
	trees map[string]api.Tree
	bytes string
	long  int
}

func plainOf(g api.Gram, bytes string, long int) plain {
	p := plain{trees: map[string]api.Tree{}, bytes: bytes, long: long}
	for _, r := range g.Rules {
		p.trees[r.Name] = r.Tree
	}
	return p
}

// put answers the texts that are put together of one of the first and one of the second ones.
func (p plain) put(first, second texts) texts {
	out := texts{}
	for a := range first {
		for b := range second {
			if len(a)+len(b) <= p.long {
				out[a+b] = true
			}
		}
	}
	return out
}

// cases answers a text in all ways in which its letters are great or small.
func (p plain) cases(s string) texts {
	out := texts{"": true}
	for i := range len(s) {
		one := s[i : i+1]
		out = p.put(out, texts{strings.ToUpper(one): true, strings.ToLower(one): true})
	}
	return out
}

// derived answers the texts that a tree derives.
func (p plain) derived(t api.Tree) texts {
	out := texts{}
	switch t.Kind {
	case api.TreeName:
		return p.derived(p.trees[t.Text])
	case api.TreeChars:
		return p.cases(t.Text)
	case api.TreeBytes:
		return p.put(texts{t.Text: true}, texts{"": true})
	case api.TreeRange:
		for i := range len(p.bytes) {
			if t.Lo <= p.bytes[i] && p.bytes[i] <= t.Hi {
				out[p.bytes[i:i+1]] = true
			}
		}
	case api.TreeRow:
		out[""] = true
		for _, kid := range t.Kids {
			out = p.put(out, p.derived(kid))
		}
	case api.TreeOr:
		for _, kid := range t.Kids {
			maps.Copy(out, p.derived(kid))
		}
	case api.TreeTimes:
		return p.times(p.derived(t.Kids[0]), t.Min, t.Max)
	}
	return out
}

// times answers what is put together of from least to most texts. Beyond more than are looked at, of what is not empty, all is the same.
func (p plain) times(kid texts, least, most int) texts {
	out, here := texts{}, texts{"": true}
	if most == -1 {
		most = least + p.long + 1
	}
	for many := 0; many <= most; many++ {
		if many >= least {
			maps.Copy(out, here)
		}
		next := p.put(here, kid)
		if maps.Equal(next, here) {
			many = max(many, least-1)
			if many >= least {
				break
			}
		}
		here = next
	}
	return out
}

// textsOf answers all texts of some bytes that are at most so long.
func textsOf(some string, long int) []string {
	all := []string{""}
	for from := 0; len(all[len(all)-1]) < long; {
		to := len(all)
		for _, s := range all[from:to] {
			for i := range len(some) {
				all = append(all, s+some[i:i+1])
			}
		}
		from = to
	}
	return all
}

// tally counts what was looked at.
type tally struct{ yes, no, several, longer int }

func (y *tally) count(ends []int, from int) {
	switch len(ends) {
	case 0:
		y.no++
	case 1:
		y.yes++
	default:
		y.yes++
		y.several++
	}
	if len(ends) > 0 && ends[len(ends)-1] > from+1 {
		y.longer++
	}
}

// enough holds that there was enough of all that is to be looked at.
func (y *tally) enough(t *testing.T) {
	t.Helper()
	if y.yes < 1000 || y.no < 1000 || y.several < 1000 || y.longer < 1000 {
		t.Errorf("hardly anything was looked at: %+v", *y)
	}
}

// check holds of each rule of a grammar, and each text of some bytes, that it ends just where what it derives ends.
func (y *tally) check(t testing.TB, g api.Gram, bytes string, long int) {
	t.Helper()
	p := plainOf(g, bytes, long)
	for _, rule := range g.Rules {
		derived := p.derived(rule.Tree)
		for _, s := range textsOf(bytes, long) {
			for from := range len(s) + 1 {
				var want []int
				for to := from; to <= len(s); to++ {
					if derived[s[from:to]] {
						want = append(want, to)
					}
				}
				wantEndsOf(t, g, rule.Name, s, from, want...)
				y.count(want, from)
			}
			if t.Failed() {
				t.Fatal(shown(g))
			}
		}
	}
}

// shown answers a grammar's text.
func shown(g api.Gram) string {
	var lines []string
	for _, r := range g.Rules {
		s, _ := abnf.Print(r)
		lines = append(lines, s)
	}
	return strings.Join(lines, "; ")
}

// P5.1: all trees of few parts.
func TestShortTrees(t *testing.T) {
	leaves := []string{`""`, `"a"`, `"Ab"`, "%x61", "%x62.61", "%x41-61", "c"}
	var y tally
	check := func(s string) { y.check(t, gathered(t, "a = "+s+`; c = %x62 / *"b" %x41`), "aAb", 3) }
	for _, one := range leaves {
		for least := range 4 {
			check(strconv.Itoa(least) + "*" + one)
			for most := least; most < 4; most++ {
				part := strconv.Itoa(least) + "*" + strconv.Itoa(most) + one
				check(part)
				check("*(" + part + ")")
				check("2(" + part + ` / %x62)`)
			}
		}
		for _, two := range leaves {
			for _, sign := range []string{" ", " / "} {
				both := one + sign + two
				for _, s := range []string{both, "*(" + both + ")", "[" + both + "]", "2(" + both + ")", "1*3(" + both + ")", "2(" + both + ") / " + one, two + " (" + both + ")"} {
					check(s)
				}
			}
		}
	}
	y.enough(t)
}

// randTree answers a tree's text of some of the names, at most so deep.
func randTree(r *rand.Rand, names string, deep int, times []string) string {
	if deep == 1 || r.Intn(4) == 0 {
		if i := r.Intn(len(names) + 2); i < len(names) {
			return names[i : i+1]
		}
		return []string{`"a"`, `"A1"`, "%x62", "%x61-7A", "%x61.62", `""`, "%x00-FF", "%x41-61"}[r.Intn(8)]
	}
	sides := []string{randTree(r, names, deep-1, times), randTree(r, names, deep-1, times)}
	switch r.Intn(4) {
	case 0:
		return "(" + strings.Join(sides, " / ") + ")"
	case 1:
		return "(" + strings.Join(sides, " ") + ")"
	case 2:
		return "[" + sides[0] + "]"
	}
	return times[r.Intn(len(times))] + "(" + sides[0] + ")"
}

// randGram answers a grammar of rules from a on, of which each one has names of later ones in it.
func randGram(t testing.TB, r *rand.Rand, times []string) api.Gram {
	all := "abcdef"[:1+r.Intn(6)]
	var lines []string
	for i := range all {
		lines = append(lines, all[i:i+1]+" = "+randTree(r, all[i+1:], 4, times))
	}
	r.Shuffle(len(lines), func(i, j int) { lines[i], lines[j] = lines[j], lines[i] })
	return gathered(t, strings.Join(lines, "; "))
}

// P5.1: greater grammars, of things that stand thousands of times, too.
func TestGreaterGrammars(t *testing.T) {
	r := rand.New(rand.NewSource(5))
	var y tally
	for range 500 {
		g := randGram(t, r, []string{"2", "*", "0", "1", "1*", "*3", "2*4", "3*3", "40", "*200", "9999", "9999*", "2*9999"})
		y.check(t, g, "aAb", 3)
		y.check(t, g, "z1\x00\xe9", 2)
	}
	y.enough(t)
}

// pattern answers a pattern, of the library, of what a tree derives; each byte is a rune in it.
func pattern(trees map[string]api.Tree, t api.Tree) string {
	var kids []string
	for _, kid := range t.Kids {
		kids = append(kids, pattern(trees, kid))
	}
	of := func(b byte) string { return `\x{` + strconv.FormatInt(int64(b), 16) + "}" }
	out := ""
	switch t.Kind {
	case api.TreeName:
		return pattern(trees, trees[t.Text])
	case api.TreeChars:
		for i := range len(t.Text) {
			one := t.Text[i : i+1]
			out += "[" + of(strings.ToUpper(one)[0]) + of(strings.ToLower(one)[0]) + "]"
		}
	case api.TreeBytes:
		for i := range len(t.Text) {
			out += of(t.Text[i])
		}
	case api.TreeRange:
		return "[" + of(t.Lo) + "-" + of(t.Hi) + "]"
	case api.TreeRow:
		out = strings.Join(kids, "")
	case api.TreeOr:
		out = strings.Join(kids, "|")
	case api.TreeTimes:
		most := ""
		if t.Max >= 0 {
			most = strconv.Itoa(t.Max)
		}
		return "(?:(?:" + kids[0] + "){" + strconv.Itoa(t.Min) + "," + most + "})"
	}
	return "(?:" + out + ")"
}

// runesOf answers a text in which each byte is a rune.
func runesOf(s string) string {
	var out []rune
	for i := range len(s) {
		out = append(out, rune(s[i]))
	}
	return string(out)
}

// randText answers a text of at most so many bytes, of which many stand several times.
func randText(r *rand.Rand, long int) string {
	var out []byte
	for len(out) < long && r.Intn(40) > 0 {
		b := "aabbAzZ1\x00\xff"[r.Intn(10)]
		for range 1 + r.Intn(1+r.Intn(30)) {
			out = append(out, b)
		}
	}
	return string(out[:min(len(out), long)])
}

// P5.1: long texts: as the library's patterns tell, which are built otherwise.
func TestLongTexts(t *testing.T) {
	r := rand.New(rand.NewSource(55))
	var y tally
	for range 1500 {
		g := randGram(t, r, []string{"2", "*", "0", "1", "1*", "*3", "2*4", "3*3", "*", "1*", "*7", "5*9"})
		rule := g.Rules[len(g.Rules)-1]
		trees := plainOf(g, "", 0).trees
		whole, err := regexp.Compile(`\A` + pattern(trees, rule.Tree) + `\z`)
		if err != nil {
			continue // It is greater than the library makes.
		}
		s := randText(r, api.MaxDerive)
		from := r.Intn(len(s) + 1)
		if r.Intn(2) == 0 {
			from = 0
		}
		var want []int
		for to := from; to <= len(s); to++ {
			if whole.MatchString(runesOf(s[from:to])) {
				want = append(want, to)
			}
		}
		wantEndsOf(t, g, rule.Name, s, from, want...)
		if t.Failed() {
			t.Fatal(shown(g))
		}
		y.count(want, from)
	}
	if y.yes < 300 || y.no < 100 || y.several < 200 || y.longer < 200 {
		t.Errorf("hardly anything was looked at: %+v", y)
	}
}

// P5.2: Derives tells whether the last place is among Ends from 0 on; Longest, how far the last of Ends is.
func checkTogether(t testing.TB, g api.Gram, name, s string) {
	t.Helper()
	ends, err := Ends(g, name, s, 0)
	is, err2 := Derives(g, name, s)
	if err != api.OK || err2 != api.OK || is != slices.Contains(ends, len(s)) {
		t.Errorf("%s: %v, %d, but it derives %.60q: %v, %d", name, ends, err, s, is, err2)
	}
	for from := range len(s) + 1 {
		ends, _ := Ends(g, name, s, from)
		if !slices.IsSorted(ends) || len(slices.Compact(slices.Clone(ends))) != len(ends) {
			t.Errorf("%s: %v do not rise", name, ends)
		}
		n, err := Longest(g, name, s, from)
		if err != api.OK || len(ends) > 0 && ends[len(ends)-1]-from != n || len(ends) == 0 && n != 0 {
			t.Errorf("%s, from %d: %v, but the longest is of %d", name, from, ends, n)
		}
		for _, to := range ends {
			if is, _ := Derives(g, name, s[from:to]); !is {
				t.Errorf("%s from %d ends at %d, but does not derive %q", name, from, to, s[from:to])
			}
		}
	}
}

// P5.2: what is derived from a place on hangs on the bytes behind it alone; and where it ends, on none behind that.
func checkAlone(t testing.TB, g api.Gram, name, ahead, s, behind string) {
	t.Helper()
	want, _ := Ends(g, name, s, 0)
	for i := range want {
		want[i] += len(ahead)
	}
	got, err := Ends(g, name, ahead+s, len(ahead))
	if err != api.OK || !slices.Equal(got, want) {
		t.Errorf("%s of %.60q: %v; behind %.60q: %v, %d", name, s, want, ahead, got, err)
	}
	more, _ := Ends(g, name, ahead+s+behind, len(ahead))
	more = slices.DeleteFunc(more, func(to int) bool { return to > len(ahead+s) })
	if !slices.Equal(more, want) {
		t.Errorf("%s of %.60q: %v; ahead of %.60q: %v", name, s, want, behind, more)
	}
}

func TestFollows(t *testing.T) {
	r := rand.New(rand.NewSource(52))
	for range 300 {
		g := randGram(t, r, []string{"2", "*", "0", "1", "1*", "*3", "2*4", "40", "*200", "9999"})
		name := g.Rules[r.Intn(len(g.Rules))].Name
		checkTogether(t, g, name, randText(r, 20))
		for range 10 {
			checkAlone(t, g, name, randText(r, 80), randText(r, 60), randText(r, 60))
		}
		if t.Failed() {
			t.Fatal(shown(g))
		}
	}
}

// P5.2: of what derives the empty text, more of it are no others: as many as there are bytes are as good as any more; and at least so many are as good as at most so many.
func TestMoreOfEmpty(t *testing.T) {
	r := rand.New(rand.NewSource(25))
	some := 0
	for range 200 {
		g := randGram(t, r, []string{"2", "*", "1", "1*", "*3", "2*4"})
		kid := g.Rules[len(g.Rules)-1]
		if is, _ := Derives(g, kid.Name, ""); !is {
			continue
		}
		some++
		s := randText(r, 50)
		for _, often := range [][2]string{{strconv.Itoa(len(s)), "9999"}, {"*" + strconv.Itoa(len(s)), "*"}, {"*", "9999*"}, {"3", "*3"}, {"2*3", "3"}, {"*", strconv.Itoa(len(s))}, {"0*7", "7*7"}} {
			l := append(slices.Clone(g.Rules), parsed(t, "y-0 = "+often[0]+kid.Name+"; y-1 = "+often[1]+kid.Name)...)
			both := api.Gram{Rules: l}
			for _, from := range []int{0, len(s) / 2, len(s)} {
				want, err := Ends(both, "y-0", s, from)
				if err != api.OK || len(want) == 0 || want[0] != from {
					t.Fatal(shown(both), s, want, err)
				}
				wantEndsOf(t, both, "y-1", s, from, want...)
			}
		}
		if t.Failed() {
			t.Fatal(shown(g), s)
		}
	}
	if some < 50 {
		t.Error("hardly anything was looked at:", some)
	}
}

func FuzzEnds(f *testing.F) {
	f.Add("a = b c\nb = \"x\"\nc = [b] / 2(b \"y\") 1*b %x61.62\na =/ *3c", "xXyab")
	f.Add("a = 9999(9999b)\nb = c / d\nd = 0(*a-1)\na-1 = 5*7%x61-7A\nc = \"\"", "")
	f.Add("a = 2*(%x61 / 3*[%x61.62])", "aaabab")
	f.Fuzz(func(t *testing.T, s, text string) {
		toks, _, err := lex.Lex(s)
		if err != api.OK || len(s) > 300 || len(text) > 30 {
			return
		}
		l, _, err := abnf.Parse(toks)
		if err != api.OK {
			return
		}
		g, _, err := rules.Gather(l)
		if err != api.OK {
			return
		}
		for _, rule := range g.Rules {
			checkTogether(t, g, rule.Name, text)
			checkAlone(t, g, rule.Name, text, text, text)
		}
	})
}
