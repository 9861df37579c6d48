package derive

import (
	"math"
	"reflect"
	"slices"
	"strconv"
	"strings"
	"testing"

	"franking/abnf"
	"franking/api"
	"franking/lex"
	"franking/rules"
)

// parsed answers the rules of a text, in which ; stands for a line's end.
func parsed(t testing.TB, s string) []api.Rule {
	t.Helper()
	toks, at, err := lex.Lex(strings.ReplaceAll(s, "; ", "\n"))
	if err != api.OK {
		t.Fatalf("%.60q is cut into no tokens: %d at %d", s, err, at)
	}
	l, at, err := abnf.Parse(toks)
	if err != api.OK {
		t.Fatalf("%.60q is no rules: %d at %d", s, err, at)
	}
	return l
}

// gathered answers the grammar of a text.
func gathered(t testing.TB, s string) api.Gram {
	t.Helper()
	g, name, err := rules.Gather(parsed(t, s))
	if err != api.OK {
		t.Fatalf("%.60q is no grammar: %d of %q", s, err, name)
	}
	return g
}

// wantEnds holds that all calls tell of rule a these ends, from a place on.
func wantEnds(t testing.TB, g api.Gram, s string, from int, want ...int) {
	t.Helper()
	wantEndsOf(t, g, "a", s, from, want...)
}

func wantEndsOf(t testing.TB, g api.Gram, name, s string, from int, want ...int) {
	t.Helper()
	ends, err := Ends(g, name, s, from)
	if err != api.OK || !slices.Equal(ends, want) {
		t.Errorf("Ends of %s of %.60q from %d: %v, %d; want %v", name, s, from, ends, err, want)
	}
	longest := 0
	if len(want) > 0 {
		longest = want[len(want)-1] - from
	}
	if got, err := Longest(g, name, s, from); err != api.OK || got != longest {
		t.Errorf("Longest of %s of %.60q from %d: %d, %d; want %d", name, s, from, got, err, longest)
	}
	if from > 0 {
		return
	}
	derived := slices.Contains(want, len(s))
	if got, err := Derives(g, name, s); err != api.OK || got != derived {
		t.Errorf("%s derives %.60q: %v, %d; want %v", name, s, got, err, derived)
	}
}

// wantDerived holds that rule a of a grammar's text derives the texts ahead of |, and none of those behind it.
func wantDerived(t *testing.T, gram string, texts ...string) {
	t.Helper()
	g := gathered(t, gram)
	want := true
	for _, s := range texts {
		if s == "|" {
			want = false
			continue
		}
		if got, err := Derives(g, "a", s); err != api.OK || got != want {
			t.Errorf("%.60q derives %.60q: %v, %d; want %v", gram, s, got, err, want)
		}
	}
}

// wantErr holds that all calls answer that error, and nothing beside it. Derives is asked only where from is a place of the text.
func wantErr(t *testing.T, g api.Gram, name, s string, from int, want api.Errno) {
	t.Helper()
	if l, err := Ends(g, name, s, from); err != want || len(l) != 0 {
		t.Errorf("Ends of %q of %d bytes from %d: %v, %d; want %d", name, len(s), from, l, err, want)
	}
	if n, err := Longest(g, name, s, from); err != want || n != 0 {
		t.Errorf("Longest of %q of %d bytes from %d: %d, %d; want %d", name, len(s), from, n, err, want)
	}
	if from < 0 || from > len(s) {
		return
	}
	if is, err := Derives(g, name, s); err != want || is {
		t.Errorf("%q derives %d bytes: %v, %d; want %d", name, len(s), is, err, want)
	}
}

// upFrom answers all numbers from one to another one.
func upFrom(lo, hi int) []int {
	var l []int
	for i := lo; i <= hi; i++ {
		l = append(l, i)
	}
	return l
}

// Trees that are made by hand.

func leaf(kind uint8, text string) api.Tree { return api.Tree{Kind: kind, Text: text} }

func named(name string) api.Tree { return leaf(api.TreeName, name) }

func often(least, most int, kid api.Tree) api.Tree {
	return api.Tree{Kind: api.TreeTimes, Min: least, Max: most, Kids: []api.Tree{kid}}
}

func of(kind uint8, kids ...api.Tree) api.Tree { return api.Tree{Kind: kind, Kids: kids} }

// about answers a tree with others about it, so many times.
func about(many int, t api.Tree, wrap func(api.Tree) api.Tree) api.Tree {
	for range many {
		t = wrap(t)
	}
	return t
}

// ruleA answers a grammar of one rule, a, of that tree.
func ruleA(t api.Tree) api.Gram { return api.Gram{Rules: []api.Rule{{Name: "a", Tree: t}}} }

// P5.1: the chapter's examples.
func TestExamples(t *testing.T) {
	wantDerived(t, `a = 1*2"b" / %x41`, "bB", "A", "b", "BB", "|", "b A", "", "a", "bbb", "Ab", "bA")
	g := gathered(t, `a = 1*2"b" / %x41`)
	wantEnds(t, g, "BbA", 0, 1, 2)
	wantEnds(t, g, "BbA", 1, 2)
	wantEnds(t, g, "BbA", 2, 3)
	wantEnds(t, g, "BbA", 3)
	if n, err := Longest(g, "a", "BbA", 0); n != 2 || err != api.OK {
		t.Error(n, err)
	}
	star := gathered(t, `a = *(*"b")`)
	wantEnds(t, star, "bb", 0, 0, 1, 2)
	wantErr(t, star, "a", "bb", 4, api.ErrArg)
	eight := gathered(t, "word = 1*%x61-7A; num = 1*%x30-39")
	wantEndsOf(t, eight, "num", "12", 0, 1, 2)
	wantEndsOf(t, eight, "num", "x", 0)
	wantEndsOf(t, eight, "word", "ab12c", 0, 1, 2)
	wantEndsOf(t, eight, "word", "ab12c", 4, 5)
}

// P5.1: TreeName is what the rule of that name is, through others, too.
func TestNames(t *testing.T) {
	wantDerived(t, `a = b; b = c; c = "x" / %x79`, "x", "X", "y", "|", "", "Y", "b", "c", "xy")
	wantDerived(t, `a = A-1 2b; b = [a-1]; a-1 = %x78`, "x", "xx", "xxx", "|", "", "xxxx", "a-1")
	g := gathered(t, `a = b c; b = *"x"; c = "x" / b "y"; d = "q"`)
	wantEnds(t, g, "xxy", 0, 1, 2, 3)
	wantEndsOf(t, g, "b", "xxy", 0, 0, 1, 2)
	wantEndsOf(t, g, "c", "xxy", 0, 1, 3)
	wantEndsOf(t, g, "d", "xxy", 0)
	wantEndsOf(t, g, "d", "xxQ", 2, 3)
}

// P5.1: TreeChars: letters great or small, and no other bytes but themselves.
func TestChars(t *testing.T) {
	wantDerived(t, `a = "aB"`, "aB", "ab", "AB", "Ab", "|", "", "a", "B", "ba", "abb", "xab", "abx", "a b")
	wantDerived(t, `a = ""`, "", "|", "a", " ", "\x00")
	wantDerived(t, `a = "a1-Z~"`, "A1-z~", "a1-Z~", "|", "a1-z^", "a\x11-Z~", "a1\rZ~")
	for b := range 256 {
		s := string([]byte{byte(b)})
		for c := 32; c < 127; c++ {
			if c == '"' {
				continue
			}
			want := b == c
			if 'a' <= c && c <= 'z' || 'A' <= c && c <= 'Z' {
				want = b == c || b == c^32
			}
			if got, err := Derives(ruleA(leaf(api.TreeChars, string(rune(c)))), "a", s); err != api.OK || got != want {
				t.Errorf("chars %d derive %q: %v, %d", c, s, got, err)
			}
		}
	}
	// Letters that are alike elsewhere, of as many bytes.
	wantDerived(t, `a = "kkk"`, "KkK", "|", "\u212a", "k\u212a", "K")
	wantDerived(t, `a = "ss"`, "sS", "|", "\u017f", "\u00df", "s")
	g := gathered(t, `a = "aB"`)
	wantEnds(t, g, "xAbab", 0)
	wantEnds(t, g, "xAbab", 1, 3)
	wantEnds(t, g, "xAbab", 2)
	wantEnds(t, g, "xAbab", 3, 5)
	wantEnds(t, g, "xAbab", 4)
	wantEnds(t, g, "xAbab", 5)
}

// P5.1: TreeBytes: these bytes, and TreeRange: each one of some, the first and the last one, too.
func TestBytesAndRanges(t *testing.T) {
	wantDerived(t, `a = %x61.42`, "aB", "|", "", "ab", "AB", "a", "aBa", "Ba")
	wantDerived(t, `a = %x00`, "\x00", "|", "", "0", "\x00\x00")
	wantDerived(t, `a = %xC3.A9`, "é", "|", "\xc3", "\xa9", "É", "e")
	wantDerived(t, `a = %x0D.0A`, "\r\n", "|", "\n", "\r", "\n\r", "\r\n\r\n")
	wantDerived(t, `a = %x22`, "\"", "|", "")
	for b := range 256 {
		s := string([]byte{byte(b)})
		if got, err := Derives(ruleA(leaf(api.TreeBytes, s)), "a", s); err != api.OK || !got {
			t.Errorf("byte %d: %v, %d", b, got, err)
		}
		for _, r := range [][2]int{{0, 255}, {0, 0}, {255, 255}, {0, 127}, {128, 255}, {65, 90}, {97, 97}, {63, 64}, {191, 192}} {
			g := ruleA(api.Tree{Kind: api.TreeRange, Lo: uint8(r[0]), Hi: uint8(r[1])})
			if got, err := Derives(g, "a", s); err != api.OK || got != (r[0] <= b && b <= r[1]) {
				t.Errorf("bytes %v derive %d: %v, %d", r, b, got, err)
			}
			if got, err := Derives(g, "a", s+s); err != api.OK || got {
				t.Errorf("bytes %v derive two of %d", r, b)
			}
		}
	}
	g := gathered(t, "a = %x30-39")
	wantEnds(t, g, "", 0)
	wantEnds(t, g, "1x2", 0, 1)
	wantEnds(t, g, "1x2", 1)
	wantEnds(t, g, "1x2", 2, 3)
	wantEnds(t, g, "1x2", 3)
}

// P5.1: TreeRow: in this order, each kid; however the text is parted.
func TestRows(t *testing.T) {
	wantDerived(t, `a = "x" "y" "z"`, "xyz", "XYZ", "|", "", "x", "xy", "yz", "xzy", "zyx", "xyzx", "xyyz")
	wantDerived(t, `a = "" "x" ""`, "x", "|", "", "xx")
	wantDerived(t, `a = *%x78 %x78 *%x78`, "x", "xx", "xxxx", "|", "", "y", "xy", "yx")
	wantDerived(t, `a = *%x78 2%x78.79 %x79`, "xyxyy", "xxyxyy", "|", "xyy", "xxyyxyy", "xyxy")
	wantDerived(t, `a = "x" ("y" "z") "w"`, "xyzw", "|", "xyw", "xw")
	g := gathered(t, `a = (%x61 / %x61.61) (%x61 / %x61.61)`)
	wantEnds(t, g, "aaaaa", 0, 2, 3, 4)
	wantEnds(t, g, "aaaaa", 1, 3, 4, 5)
	wantEnds(t, g, "aaaaa", 2, 4, 5)
	wantEnds(t, g, "aaaaa", 3, 5)
	wantEnds(t, g, "aaaaa", 4)
	wantEnds(t, g, "aaaaa", 5)
}

// P5.1: TreeOr: any kid, and all of them, whichever stands first.
func TestChoices(t *testing.T) {
	wantDerived(t, `a = "x" / "y" / "zz"`, "x", "y", "zz", "|", "", "z", "xy", "xyzz", "xx")
	wantDerived(t, `a = "x" "y" / "z"`, "xy", "z", "|", "x", "xz", "y")
	wantDerived(t, `a = "x" ("y" / "z")`, "xy", "xz", "|", "x", "z", "xyz")
	wantDerived(t, `a = "" / "x"`, "", "x", "|", "xx")
	wantDerived(t, `a = "x"; a =/ "y"; a =/ "w" / "z"`, "x", "y", "w", "z", "|", "", "xy")
	for _, s := range []string{"%x61 / %x61.61.61 / %x61.61", "%x61.61.61 / %x61.61 / %x61", "(%x61 / %x61.61) / (%x61.61 / %x61.61.61)"} {
		wantEnds(t, gathered(t, "a = "+s), "aaaa", 0, 1, 2, 3)
		wantEnds(t, gathered(t, "a = "+s), "aaaa", 2, 3, 4)
	}
	wantEnds(t, gathered(t, `a = "" / "aa" / "b"`), "aab", 0, 0, 2)
}

// P5.1: how often something stands: none, once, some times, as often as may be.
func TestTimes(t *testing.T) {
	for s, want := range map[string][]int{
		"0%x61": {1}, "0*0%x61": {1}, "1%x61": {2}, "1*1%x61": {2}, "2%x61": {3}, "4%x61": {5}, "5%x61": nil, "9999%x61": nil,
		"[%x61]": {1, 2}, "*1%x61": {1, 2}, "*3%x61": {1, 2, 3, 4}, "*4%x61": {1, 2, 3, 4, 5}, "*5%x61": {1, 2, 3, 4, 5}, "*9999%x61": {1, 2, 3, 4, 5},
		"*%x61": {1, 2, 3, 4, 5}, "1*%x61": {2, 3, 4, 5}, "3*%x61": {4, 5}, "4*%x61": {5}, "5*%x61": nil, "9999*%x61": nil,
		"1*3%x61": {2, 3, 4}, "2*3%x61": {3, 4}, "4*9999%x61": {5}, "5*9999%x61": nil, "9998*9999%x61": nil, "1*2%x62": nil, "*2%x62": {1},
		"*%x61.61": {1, 3, 5}, "1*2%x61.61": {3, 5}, "2*%x61.61": {5}, "*1%x61.61": {1, 3}, "*(%x61.61 / %x61.61.61)": {1, 3, 4, 5}, "2(%x61 / %x61.61.61)": {3, 5}, "1*2(%x61 / %x61.61.61)": {2, 3, 4, 5},
	} {
		wantEnds(t, gathered(t, "a = "+s), "xaaaa", 1, want...)
		wantEnds(t, gathered(t, "a = b; b = "+s), "xaaaa", 1, want...)
	}
	wantDerived(t, "a = 2*3(%x61 [%x62])", "aa", "aba", "abab", "aaa", "ababab", "|", "", "a", "ab", "b", "aaaa", "abababab", "abb")
	wantDerived(t, "a = 0%x61", "", "|", "a", "aa")
	wantDerived(t, "a = 0(0%x61 %x62)", "", "|", "b", "ab")
	wantDerived(t, `a = 2(2"x")`, "xxxx", "|", "", "xx", "xxx", "xxxxx")
	wantDerived(t, `a = 2*3(2*3"x")`, "xxxx", "xxxxxxxxx", "xxxxxxx", "|", "", "xxx", "xxxxxxxxxx")
	wantDerived(t, `a = *2(3"x")`, "", "xxx", "xxxxxx", "|", "x", "xxxx", "xxxxxxxxx")
}

// P5.1, P5.2: of what derives the empty text, thousands are no others than as many as there are bytes.
func TestTimesOfEmpty(t *testing.T) {
	for _, often := range []string{"1", "2", "3", "*", "1*", "*2", "4", "5", "6", "100", "9999", "9999*", "*9999", "5*9999", "9998*9999", "0"} {
		for kid, most := range map[string]int{`""`: 0, "(0%x61)": 0, `("" / "")`: 0, `("" "")`: 0, "[%x62]": 0, "(*%x61)": 5, `("" / %x61)`: 1, "[%x61]": 1, "(*2%x61)": 2, "(*1%x61 *1%x61)": 2} {
			// Each of them comes on by one byte to so many of them, of five.
			many := map[string]int{"1": 1, "2": 2, "*2": 2, "3": 3, "4": 4, "0": 0}
			times, told := many[often]
			if !told {
				times = 5
			}
			wantEnds(t, gathered(t, "a = "+often+kid), "aaaaa", 0, upFrom(0, min(times*most, 5))...)
		}
	}
	for _, s := range []string{"9999[%x61]", "5*9999(*%x61)", "*(*(*(*%x61)))", "9999(9999(9999[%x61]))", "9999(*%x61 / %x62)", "*([%x61] [%x61])"} {
		wantEnds(t, gathered(t, "a = "+s), "xaaa", 1, 1, 2, 3, 4)
		wantEnds(t, gathered(t, "a = "+s), "xaaa", 0, 0)
		wantEnds(t, gathered(t, "a = "+s), "xaaa", 4, 4)
	}
	// Two bytes at a time, and three: what comes to no place comes to none however often.
	wantEnds(t, gathered(t, "a = 9999[%x61.61]"), "aaaaa", 0, 0, 2, 4)
	wantEnds(t, gathered(t, "a = 2[%x61.61.61]"), strings.Repeat("a", 10), 0, 0, 3, 6)
	wantEnds(t, gathered(t, "a = 9999(%x61.61 / *1%x61.61.61)"), "aaaaaa", 0, 0, 2, 3, 4, 5, 6)
}

// P5.1: as many as a text has bytes, one fewer and one more; each number up to them tells where it ends.
func TestTimesOfAllBytes(t *testing.T) {
	for _, long := range []int{0, 1, 63, 64, 65, 127, 128, 129, 191, 192, 193, 199, 200} {
		s := strings.Repeat("a", long)
		for _, times := range []int{0, 1, 62, 63, 64, 65, 128, 190, 191, 192, 198, 199, 200, 201, 256, 9999} {
			n := strconv.Itoa(times)
			var exact []int
			if times <= long {
				exact = []int{times}
			}
			wantEnds(t, gathered(t, "a = "+n+"%x61"), s, 0, exact...)
			wantEnds(t, gathered(t, "a = *"+n+"%x61"), s, 0, upFrom(0, min(times, long))...)
			wantEnds(t, gathered(t, "a = "+n+"*%x61"), s, 0, upFrom(times, long)...)
			wantEnds(t, gathered(t, "a = "+n+"[%x61]"), s, 0, upFrom(0, min(times, long))...)
		}
	}
}

// P5.1: the errors, and which one is the first where there are several.
func TestErrors(t *testing.T) {
	good := gathered(t, `a = 2b; b = "x"`)
	wrong := api.Gram{Rules: append(parsed(t, `b = "x"; a = 2b`), parsed(t, "c = z")...)}
	long := strings.Repeat("x", api.MaxDerive+1)
	for _, s := range []string{"", "xx", long[1:], long, long + long} {
		for _, name := range []string{"a", "b", "z", "A", "", "aa", "\xff", "x"} {
			for _, from := range []int{math.MinInt, -1, len(s) + 1, len(s) + 200, math.MaxInt} {
				wantErr(t, good, name, s, from, api.ErrArg)
				wantErr(t, wrong, name, s, from, api.ErrArg)
				wantErr(t, api.Gram{}, name, s, from, api.ErrArg)
			}
			for _, from := range []int{0, len(s) / 2, len(s)} {
				wantErr(t, wrong, name, s, from, api.ErrArg)
				wantErr(t, api.Gram{}, name, s, from, api.ErrNone)
				switch {
				case name != "a" && name != "b":
					wantErr(t, good, name, s, from, api.ErrNone)
				case len(s) > api.MaxDerive:
					wantErr(t, good, name, s, from, api.ErrLong)
				}
			}
		}
	}
}

// P5.1: each of what makes a grammar wrong is told, wherever it is: ahead of the rule, in it, or behind it.
func TestWrongGrammars(t *testing.T) {
	good := parsed(t, `b = "x"; a = b; c = a b`)
	x := leaf(api.TreeChars, "x")
	once := func(kid api.Tree) api.Tree { return often(1, 1, kid) }
	trees := []api.Tree{
		{}, {Kind: 8}, {Kind: 255}, named("d"), named("z"), named("B"), named(""), {Kind: api.TreeRange, Lo: 2, Hi: 1}, leaf(api.TreeBytes, ""), leaf(api.TreeChars, "\xff"), leaf(api.TreeChars, "\""),
		of(api.TreeOr, x), of(api.TreeRow), {Kind: api.TreeRow, Text: "x", Kids: []api.Tree{x, x}}, {Kind: api.TreeChars, Text: "x", Kids: []api.Tree{x}}, {Kind: api.TreeBytes, Text: "x", Min: 1},
		{Kind: api.TreeTimes, Max: 1}, often(2, 1, x), often(0, -2, x), often(0, 10000, x), often(-1, 0, x), often(10000, -1, x), {Kind: api.TreeTimes, Max: 1, Kids: []api.Tree{x, x}}, about(api.MaxDeep, x, once),
	}
	list := []api.Rule{{Name: "d", More: true, Tree: x}, {Name: "", Tree: x}, {Name: "D", Tree: x}, {Name: "d d", Tree: x}}
	for _, tree := range trees {
		list = append(list, api.Rule{Name: "d", Tree: tree})
	}
	for _, rule := range list {
		for at := range len(good) + 1 {
			g := api.Gram{Rules: slices.Insert(slices.Clone(good), at, rule)}
			for _, name := range []string{"a", "b", "c", "d", "z", rule.Name} {
				wantErr(t, g, name, "x", 0, api.ErrArg)
				wantErr(t, g, name, strings.Repeat("x", 201), 201, api.ErrArg)
			}
		}
	}
	wantErr(t, api.Gram{Rules: parsed(t, `a = b; b = "x"`)}, "b", "x", 0, api.ErrArg)
	wantErr(t, api.Gram{Rules: parsed(t, `a = "x"; a = "x"`)}, "a", "x", 0, api.ErrArg)
	round := []api.Tree{{Kind: api.TreeTimes}}
	round[0].Kids = round
	wantErr(t, ruleA(round[0]), "a", "x", 0, api.ErrArg)
	wantEnds(t, ruleA(about(api.MaxDeep-1, x, once)), "x", 0, 1)
}

// P5.1: places from a text's beginning to its end, and beyond it.
func TestPlaces(t *testing.T) {
	star, one, empty := gathered(t, "a = *%x61"), gathered(t, "a = %x61"), gathered(t, `a = ""`)
	for _, long := range []int{0, 1, 2, 63, 64, 65, 128, 199, 200} {
		s := strings.Repeat("a", long)
		for from := -2; from <= long+2; from++ {
			if from < 0 || from > long {
				for _, g := range []api.Gram{star, one, empty} {
					wantErr(t, g, "a", s, from, api.ErrArg)
				}
				continue
			}
			wantEnds(t, star, s, from, upFrom(from, long)...)
			wantEnds(t, empty, s, from, from)
			if from < long {
				wantEnds(t, one, s, from, from+1)
			}
		}
		wantEnds(t, one, s, long)
	}
}

// P5.1: 200 bytes are not too many, and 201 are, however few of them are asked about.
func TestLength(t *testing.T) {
	g := gathered(t, `a = *"x" "y"; b = 200%x78-7A; c = 201"x"; d = %x78`+strings.Repeat(".78", 200)+`; e = "`+strings.Repeat("xY", 100)+`"; f = 1000d / 1000c`)
	s := strings.Repeat("x", 199) + "y"
	wantEnds(t, g, s, 0, 200)
	wantEnds(t, g, s, 199, 200)
	wantEnds(t, g, s, 200)
	wantEndsOf(t, g, "b", s, 0, 200)
	wantEndsOf(t, g, "b", s, 1)
	wantEndsOf(t, g, "c", strings.Repeat("x", 200), 0)
	wantEndsOf(t, g, "d", strings.Repeat("x", 200), 0)
	wantEndsOf(t, g, "e", strings.Repeat("Xy", 100), 0, 200)
	wantEndsOf(t, g, "e", strings.Repeat("Xy", 99)+"X", 0)
	wantEndsOf(t, g, "f", strings.Repeat("x", 200), 0)
	for _, from := range []int{0, 1, 100, 200, 201} {
		for _, name := range []string{"a", "b", "c", "d", "e", "f"} {
			wantErr(t, g, name, "x"+s, from, api.ErrLong)
		}
	}
	wantErr(t, g, "a", strings.Repeat("x", 1<<20), 1<<20, api.ErrLong)
	huge := strings.Repeat("x", 1<<26)
	for _, kind := range []uint8{api.TreeChars, api.TreeBytes} {
		wantEnds(t, ruleA(often(0, -1, leaf(kind, huge))), s, 0, 0)
		wantEnds(t, ruleA(leaf(kind, huge)), s, 0)
	}
}

// Trees through which there are more ways than can be gone: the calls end, and soon.
func TestManyWays(t *testing.T) {
	s := strings.Repeat("a", api.MaxDerive)
	all := upFrom(0, api.MaxDerive)
	x := leaf(api.TreeBytes, "a")
	for i, wrap := range []func(api.Tree) api.Tree{
		func(kid api.Tree) api.Tree { return often(0, -1, kid) },
		func(kid api.Tree) api.Tree { return often(0, 9999, kid) },
		func(kid api.Tree) api.Tree { return of(api.TreeOr, kid, often(0, -1, x)) },
		func(kid api.Tree) api.Tree { return of(api.TreeRow, often(0, -1, x), kid, often(0, 9999, x)) },
	} {
		g := ruleA(about(api.MaxDeep-2, often(0, -1, x), wrap))
		wantEnds(t, g, s, 0, all...)
		wantEnds(t, g, s, 150, all[150:]...)
		if t.Failed() {
			t.Fatal(i)
		}
	}
	wantEnds(t, ruleA(about(api.MaxDeep-1, x, func(kid api.Tree) api.Tree { return often(9999, 9999, kid) })), s, 0)
	wantEnds(t, ruleA(about(api.MaxDeep-1, x, func(kid api.Tree) api.Tree { return often(2, 9999, kid) })), s, 0)
	wantEnds(t, ruleA(about(7, x, func(kid api.Tree) api.Tree { return often(2, 3, kid) })), s, 0, upFrom(128, 200)...)
	var twice, mixed []string
	for i := range 200 {
		here, next := "r"+strconv.Itoa(i), "r"+strconv.Itoa(i+1)
		twice = append(twice, here+" = "+next+" "+next+" / "+next)
		mixed = append(mixed, here+" = *("+next+" / 2*9999"+next+" "+next+") / [9999("+next+")]")
	}
	double := gathered(t, strings.Join(twice, "; ")+"; r200 = %x61")
	wantEndsOf(t, double, "r0", s, 0, upFrom(1, 200)...)
	wantEndsOf(t, double, "r198", s, 0, 1, 2, 3, 4)
	wantEndsOf(t, gathered(t, strings.Join(mixed, "; ")+"; r200 = %x61"), "r0", s, 0, all...)
	broad := gathered(t, "b = "+strings.Repeat("*%x61 ", 9000)+"; c = "+strings.Repeat("*b / ", 1000)+"b")
	wantEndsOf(t, broad, "b", s, 0, all...)
	if ends, err := Ends(broad, "c", s, 0); err != api.OK || !slices.Equal(ends, all) {
		t.Error(ends, err)
	}
}

// Rules that lead on very far: calls need not be nested as far as they are.
func TestFarRules(t *testing.T) {
	const many = 1 << 16
	l := []api.Rule{{Name: "r0", Tree: leaf(api.TreeBytes, "a")}}
	for i := 1; i < many; i++ {
		before := named("r" + strconv.Itoa(i-1))
		tree := before
		switch i % 64 {
		case 1:
			tree = of(api.TreeOr, leaf(api.TreeBytes, "b"), before)
		case 2:
			tree = about(api.MaxDeep-2, before, func(kid api.Tree) api.Tree { return often(1, 1, kid) })
		case 3:
			tree = of(api.TreeRow, leaf(api.TreeChars, ""), before)
		}
		l = append(l, api.Rule{Name: "r" + strconv.Itoa(i), Tree: tree})
	}
	l = append(l, api.Rule{Name: "a", Tree: often(2, 3, named("r"+strconv.Itoa(many-1)))})
	g := api.Gram{Rules: l}
	wantEnds(t, g, "xabab", 1, 3, 4)
	wantEndsOf(t, g, "r0", "xabab", 1, 2)
	for i := 1; i < many; i++ {
		l[i].Tree = about(9, named("r"+strconv.Itoa(i-1)), func(kid api.Tree) api.Tree { return of(api.TreeOr, kid, leaf(api.TreeBytes, "c")) })
	}
	wantEnds(t, g, "acab", 0, 2, 3)
}

// Rules to which the one that is asked about does not lead tell nothing.
func TestOtherRules(t *testing.T) {
	var l []string
	for i := range 200 {
		l = append(l, "q"+strconv.Itoa(i)+" = *(1*%x61 100[%x61]) / %x62")
	}
	g := gathered(t, strings.Join(l[:100], "; ")+"; b = %x61; "+strings.Join(l[100:], "; ")+"; a = 2b / q150 %x63; c = a")
	for _, name := range []string{"a", "c"} {
		wantEndsOf(t, g, name, "aac", 0, 2, 3)
		wantEndsOf(t, g, name, "bc", 0, 2)
		wantEndsOf(t, g, name, "c", 0, 1)
	}
	wantEndsOf(t, g, "b", "aac", 0, 1)
}

// roomy answers trees whose lists have spare room, in which something stands.
func roomy(l []api.Tree) []api.Tree {
	out := append(slices.Clone(l), api.Tree{Text: "spare"})
	for i := range l {
		out[i].Kids = roomy(out[i].Kids)
	}
	return out[:len(l)]
}

// spread answers trees with what stands in their lists' spare room, so that it can be compared.
func spread(l []api.Tree) []api.Tree {
	out := slices.Clone(l[:cap(l)])
	for i := range out {
		out[i].Kids = spread(out[i].Kids)
	}
	return out
}

// treesOf answers the trees of a grammar's rules.
func treesOf(g api.Gram) []api.Tree {
	var trees []api.Tree
	for _, r := range g.Rules {
		trees = append(trees, r.Tree)
	}
	return trees
}

// What is handed in is not changed, its spare room neither; what is handed out is new.
func TestMemory(t *testing.T) {
	g := gathered(t, `a = b b 3(c / b) *2("xy" c) 1*b [b]; b = "xy" / %x61.62 / c; c = *"vw" "z"`)
	for i := range g.Rules {
		g.Rules[i].Tree.Kids = roomy(g.Rules[i].Tree.Kids)
	}
	before, rules := spread(treesOf(g)), slices.Clone(g.Rules)
	const s = "xyzabzvwzXYvwvwzxyz"
	first, err := Ends(g, "a", s, 0)
	if err != api.OK || len(first) < 2 {
		t.Fatal(first, err)
	}
	second, _ := Ends(g, "a", s, 0)
	kept := slices.Clone(second)
	if !slices.Equal(first, second) {
		t.Error("Ends answers otherwise:", first, second)
	}
	for i := range first[:cap(first)] {
		first[:cap(first)][i] = -1
	}
	third, _ := Ends(g, "a", s, 0)
	if !slices.Equal(second, kept) || !slices.Equal(third, kept) {
		t.Error("an answer changes with another one:", second, third)
	}
	if is, err := Derives(g, "a", s); !is || err != api.OK {
		t.Error(is, err)
	}
	if n, err := Longest(g, "a", s, 0); n != len(s) || err != api.OK {
		t.Error(n, err)
	}
	if !reflect.DeepEqual(spread(treesOf(g)), before) || !reflect.DeepEqual(g.Rules, rules) {
		t.Error("what was handed in has changed")
	}
}
