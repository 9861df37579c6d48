package regex

import (
	"math"
	"reflect"
	"slices"
	"strconv"
	"strings"
	"testing"

	"franking/abnf"
	"franking/api"
	"franking/lex"
	"franking/rules"
)

// parsed answers the rules of a text, in which ; stands for a line's end.
func parsed(t testing.TB, s string) []api.Rule {
	t.Helper()
	toks, at, err := lex.Lex(strings.ReplaceAll(s, "; ", "\n"))
	if err != api.OK {
		t.Fatalf("%.60q is cut into no tokens: %d at %d", s, err, at)
	}
	l, at, err := abnf.Parse(toks)
	if err != api.OK {
		t.Fatalf("%.60q is no rules: %d at %d", s, err, at)
	}
	return l
}

// gathered answers the grammar of a text.
func gathered(t testing.TB, s string) api.Gram {
	t.Helper()
	g, name, err := rules.Gather(parsed(t, s))
	if err != api.OK {
		t.Fatalf("%.60q is no grammar: %d of %q", s, err, name)
	}
	return g
}

// Regular trees as the chapter writes them. re answers one of some kids, set one of the bytes that are told.

func re(kind uint8, kids ...api.Re) api.Re { return api.Re{Kind: kind, Kids: kids} }

func cat(kids ...api.Re) api.Re { return re(api.ReCat, kids...) }

func alt(kids ...api.Re) api.Re { return re(api.ReAlt, kids...) }

func star(kid api.Re) api.Re { return re(api.ReStar, kid) }

func set(in string) api.Re {
	r := api.Re{Kind: api.ReSet}
	for i := range len(in) {
		r.Set[in[i]/64] |= 1 << (in[i] % 64)
	}
	return r
}

// bytesFrom answers all bytes from one to another one.
func bytesFrom(lo, hi int) string {
	var out []byte
	for b := lo; b <= hi; b++ {
		out = append(out, byte(b))
	}
	return string(out)
}

// empty is the regular tree of nothing.
var empty = api.Re{}

// shown answers a regular tree as a text.
func shown(r api.Re) string {
	out := strconv.Itoa(int(r.Kind))
	if r.Set != (api.Set{}) {
		out += strconv.Quote(inSet(r.Set))
	}
	var kids []string
	for _, kid := range r.Kids {
		kids = append(kids, shown(kid))
	}
	if len(kids) > 0 {
		out += "(" + strings.Join(kids, " ") + ")"
	}
	return out
}

// inSet answers the bytes that are in a set.
func inSet(set api.Set) string {
	var out []byte
	for b := range 256 {
		if set[b/64]>>(b%64)&1 == 1 {
			out = append(out, byte(b))
		}
	}
	return string(out)
}

// namesOf answers the names of a grammar's rules: their trees may be none that can be told.
func namesOf(g api.Gram) []string {
	var names []string
	for _, r := range g.Rules[:min(len(g.Rules), 10)] {
		names = append(names, r.Name)
	}
	return names
}

// wantRe holds that rule a of a text is that regular tree, of that size: with every cap from its size on, and with none below it.
func wantRe(t *testing.T, s string, want api.Re, size int) {
	t.Helper()
	g := gathered(t, s)
	for _, most := range []int{size, size + 1, api.MaxRe} {
		got, err := Inline(g, "a", most)
		if err != api.OK || !reflect.DeepEqual(got, want) {
			t.Errorf("%.60q, most %d: %.200s, %d; want %.200s", s, most, shown(got), err, shown(want))
		}
		if !Right(got) || Size(got) != size {
			t.Errorf("%.60q, most %d: right %v, size %d; want %d", s, most, Right(got), Size(got), size)
		}
	}
	for _, most := range []int{size - 1, size / 2, 1} {
		if most >= 1 && most < size {
			wantErr(t, g, "a", most, api.ErrCap)
		}
	}
}

func wantErr(t *testing.T, g api.Gram, name string, most int, want api.Errno) {
	t.Helper()
	got, err := Inline(g, name, most)
	if err != want || !reflect.DeepEqual(got, empty) {
		t.Errorf("Inline(%.20q, %.20q, %d): %.60s, %d; want nothing, %d", namesOf(g), name, most, shown(got), err, want)
	}
}

// P4.2: the chapter's examples.
func TestExamples(t *testing.T) {
	b := set("b")
	wantRe(t, `a = "b" %x62`, cat(set("Bb"), b), 3)
	wantRe(t, `a = 1*2b; b = %x62`, cat(b, alt(empty, b)), 5)
	wantRe(t, `a = *""`, star(empty), 2)
	wantRe(t, `a = 0"x"`, empty, 1)
	g := gathered(t, `a = 99"x"`)
	wantErr(t, g, "a", 99, api.ErrCap)
	if r, err := Inline(g, "a", 100); err != api.OK || Size(r) != 100 || !reflect.DeepEqual(r, cat(slices.Repeat([]api.Re{set("Xx")}, 99)...)) {
		t.Error(r, err)
	}
}

// P4.2: a name is what its rule is, and nothing more, however far the rules lead on.
func TestNames(t *testing.T) {
	x, y := set("Xx"), set("Yy")
	wantRe(t, `a = b; b = "x"`, x, 1)
	wantRe(t, `a = b; b = c; c = d; d = "x" / "y"`, alt(x, y), 3)
	wantRe(t, `a = b b; b = c c; c = "x"`, cat(cat(x, x), cat(x, x)), 7)
	wantRe(t, `a = b c b; b = "x"; c = b / "y"`, cat(x, alt(x, y), x), 6)
	wantRe(t, `a = 2b [c] / *b; b = "x" "y"; c = *b`, alt(cat(cat(cat(x, y), cat(x, y)), alt(empty, star(cat(x, y)))), star(cat(x, y))), 19)
	// More of a rule, and rules that have nothing to do with it.
	wantRe(t, `a = "x"; b = "z"; a =/ "y"; c = a b`, alt(x, y), 3)
	wantRe(t, `z = 9999(9999"x"); a = "x"; c = a z`, x, 1)
	wantRe(t, `a-1 = "y"; a = "x" a-1`, cat(x, y), 3)
}

// P4.2: chars: a row of sets; letters have both of a kind, others do not.
func TestChars(t *testing.T) {
	wantRe(t, `a = ""`, empty, 1)
	wantRe(t, `a = "q"`, set("Qq"), 1)
	wantRe(t, `a = "Q"`, set("Qq"), 1)
	wantRe(t, `a = "aB1 z"`, cat(set("aA"), set("bB"), set("1"), set(" "), set("zZ")), 6)
	wantRe(t, `a = "xx"`, cat(set("xX"), set("xX")), 3)
	for b := 32; b <= 126; b++ {
		c := string(rune(b))
		if c != `"` {
			wantRe(t, `a = "`+c+`"`, set(strings.ToUpper(c)+strings.ToLower(c)), 1)
		}
	}
	if got := set("az"); got.Set != (api.Set{0, 1<<33 | 1<<58, 0, 0}) {
		t.Error("sets are not as the chapter tells:", got)
	}
}

// P4.2: bytes and ranges: just the bytes that are told, each one of the 256.
func TestBytes(t *testing.T) {
	wantRe(t, `a = %x62.42.62`, cat(set("b"), set("B"), set("b")), 4)
	wantRe(t, `a = %x00.FF`, cat(set("\x00"), set("\xff")), 3)
	wantRe(t, `a = %x61-7A`, set(bytesFrom('a', 'z')), 1)
	for b := range 256 {
		wantRe(t, `a = %d`+strconv.Itoa(b), set(bytesFrom(b, b)), 1)
		wantRe(t, `a = %d`+strconv.Itoa(b)+"-"+strconv.Itoa(b), set(bytesFrom(b, b)), 1)
		wantRe(t, `a = %d0-`+strconv.Itoa(b), set(bytesFrom(0, b)), 1)
		wantRe(t, `a = %d`+strconv.Itoa(b)+"-255", set(bytesFrom(b, 255)), 1)
	}
	all, err := Inline(gathered(t, "a = %x00-FF"), "a", 1)
	if err != api.OK || all.Set != (api.Set{math.MaxUint64, math.MaxUint64, math.MaxUint64, math.MaxUint64}) {
		t.Error(all, err)
	}
	low, err := Inline(gathered(t, "a = %d63-64"), "a", 1)
	if err != api.OK || low.Set != (api.Set{1 << 63, 1, 0, 0}) {
		t.Error(low, err)
	}
}

// P4.2: rows and choices: as their kids stand; one within another one is not taken apart.
func TestRowsAndChoices(t *testing.T) {
	x, y, z := set("xX"), set("yY"), set("zZ")
	wantRe(t, `a = "x" "y" "z"`, cat(x, y, z), 4)
	wantRe(t, `a = "x" / "y" / "z"`, alt(x, y, z), 4)
	wantRe(t, `a = "x" ("y" "z")`, cat(x, cat(y, z)), 5)
	wantRe(t, `a = "xy" "z"`, cat(cat(x, y), z), 5)
	wantRe(t, `a = ("x" / "y") / "z"`, alt(alt(x, y), z), 5)
	wantRe(t, `a = "x" ("y" / "z") / "x"`, alt(cat(x, alt(y, z)), x), 7)
	wantRe(t, `a = "" ""`, cat(empty, empty), 3)
	wantRe(t, `a = "" / ""`, alt(empty, empty), 3)
	wantRe(t, `a = 0"x" "y"`, cat(empty, y), 3)
	wantRe(t, `a = "x" / "x"`, alt(x, x), 3)
}

// P4.2: how often something stands.
func TestTimes(t *testing.T) {
	x, y := set("xX"), set("yY")
	wantRe(t, `a = 0*0"x"`, empty, 1)
	wantRe(t, `a = 1"x"`, x, 1)
	wantRe(t, `a = 2"x"`, cat(x, x), 3)
	wantRe(t, `a = 3*3"x"`, cat(x, x, x), 4)
	wantRe(t, `a = *"x"`, star(x), 2)
	wantRe(t, `a = 1*"x"`, cat(x, star(x)), 4)
	wantRe(t, `a = 2*"x"`, cat(x, x, star(x)), 5)
	wantRe(t, `a = ["x"]`, alt(empty, x), 3)
	wantRe(t, `a = *2"x"`, alt(empty, cat(x, alt(empty, x))), 7)
	wantRe(t, `a = *3"x"`, alt(empty, cat(x, alt(empty, cat(x, alt(empty, x))))), 11)
	wantRe(t, `a = 2*3"x"`, cat(x, x, alt(empty, x)), 6)
	wantRe(t, `a = 1*3"x"`, cat(x, alt(empty, cat(x, alt(empty, x)))), 9)
	// Of what is more than one node, and of what is none.
	wantRe(t, `a = 2*3("x" "y")`, cat(cat(x, y), cat(x, y), alt(empty, cat(x, y))), 12)
	wantRe(t, `a = *2("x" / "y")`, alt(empty, cat(alt(x, y), alt(empty, alt(x, y)))), 11)
	wantRe(t, `a = 2""`, cat(empty, empty), 3)
	wantRe(t, `a = [""]`, alt(empty, empty), 3)
	// Within one another.
	wantRe(t, `a = *(*"x")`, star(star(x)), 3)
	wantRe(t, `a = 2(2"x")`, cat(cat(x, x), cat(x, x)), 7)
	wantRe(t, `a = [["x"]]`, alt(empty, alt(empty, x)), 5)
	wantRe(t, `a = 1(1(1"x"))`, x, 1)
	wantRe(t, `a = 2(0"x")`, cat(empty, empty), 3)
	wantRe(t, `a = 0(2"x")`, empty, 1)
}

// P4.2: what stands no times counts nothing, however great it is by itself.
func TestGreatNoTimes(t *testing.T) {
	const great = `; b = 9999(9999(9999"y")); c = *9999b; d = 1*9999c b`
	for _, s := range []string{"0b", "0*0c", "0(b d)", "0(c / d)", "0(*d)", "0(9999d)"} {
		wantRe(t, "a = "+s+` "x"`+great, cat(empty, set("xX")), 3)
	}
	for _, name := range []string{"b", "c", "d"} {
		wantErr(t, gathered(t, "a = 0d"+great), name, api.MaxRe, api.ErrCap)
	}
	wantRe(t, "a = 5(0d)"+great, cat(empty, empty, empty, empty, empty), 6)
	for _, s := range []string{"b", "1b", "*b", "[b]", `"x" / b`, `"x" b`, "1*2(0c b)"} {
		wantErr(t, gathered(t, "a = "+s+great), "a", api.MaxRe, api.ErrCap)
	}
}

// P4.2: caps that are just met, and those that are one less, up to the greatest one.
func TestCaps(t *testing.T) {
	for s, size := range map[string]int{
		`"` + strings.Repeat("x", 19999) + `"`: 20000,
		"%x61" + strings.Repeat(".62", 19998):  20000,
		`9999"x" 9998"y"`:                      20000,
		`9999"x"`:                              10000,
		`9999*"x"`:                             10002,
		`9999"xy"`:                             29998,
		`9999"x" 9999"y"`:                      20001,
		`"` + strings.Repeat("x", 20000) + `"`: 20001,
		`*5000"x"`:                             19999,
		`*5000"x" / "y"`:                       20001,
		`1*5001"x"`:                            20001,
		`[1*4999"x"]`:                          19995,
		`*5001"x"`:                             20003,
		`*9999"x"`:                             39995,
		`*2222("x" "y" "z" / "w")`:             19997,
		`99(99"x")`:                            9901,
		`99(99("x" / "y"))`:                    29503,
		`9999(9999(9999"x"))`:                  9999*(9999*10000+1) + 1,
	} {
		g := gathered(t, "a = "+s)
		if size > api.MaxRe {
			wantErr(t, g, "a", api.MaxRe, api.ErrCap)
			continue
		}
		if r, err := Inline(g, "a", size); err != api.OK || Size(r) != size || !Right(r) {
			t.Errorf("%.40q: size %d, %d; want %d", s, Size(r), err, size)
		}
		wantErr(t, g, "a", size-1, api.ErrCap)
	}
}

// deepest answers a rule whose tree is as deep as may be, by no more than once each time.
func deepest(name string, low api.Tree) api.Rule {
	for range api.MaxDeep - 1 {
		low = api.Tree{Kind: api.TreeTimes, Min: 1, Max: 1, Kids: []api.Tree{low}}
	}
	return api.Rule{Name: name, Tree: low}
}

// Grammars whose sizes are beyond what numbers hold, and texts that are too long by far: the calls end, and soon.
func TestBeyondNumbers(t *testing.T) {
	for _, often := range []string{"9999(", "*9999(", "1*9999(", "9999*(", "4096(", "*8192("} {
		for deep := 2; deep < api.MaxDeep; deep++ {
			great := strings.Repeat(often, deep) + `"x"` + strings.Repeat(")", deep)
			wantErr(t, gathered(t, "a = "+great), "a", api.MaxRe, api.ErrCap)
			wantErr(t, gathered(t, "a = *9999b; b = 1*9999c; c = 9999*d / d; d = "+great), "a", api.MaxRe, api.ErrCap)
		}
	}
	var twice []string
	for i := range 200 {
		next := "r" + strconv.Itoa(i+1)
		twice = append(twice, "r"+strconv.Itoa(i)+" = "+next+" "+next)
	}
	double := gathered(t, strings.Join(twice, "; ")+`; r200 = "x"`)
	wantErr(t, double, "r0", api.MaxRe, api.ErrCap)
	if r, err := Inline(double, "r187", api.MaxRe); err != api.OK || Size(r) != 1<<14-1 {
		t.Error(Size(r), err)
	}
	wantErr(t, double, "r186", api.MaxRe, api.ErrCap)
	long := strings.Repeat("x", 1<<26)
	for _, kind := range []uint8{api.TreeChars, api.TreeBytes} {
		wantErr(t, api.Gram{Rules: []api.Rule{{Name: "a", Tree: api.Tree{Kind: kind, Text: long}}}}, "a", api.MaxRe, api.ErrCap)
	}
	wantErr(t, gathered(t, "a = %x61; b = "+strings.Repeat("*9999a ", 9000)), "b", api.MaxRe, api.ErrCap)
	wantErr(t, gathered(t, "a = %x61; b = "+strings.Repeat("9999a ", 9000)), "b", api.MaxRe, api.ErrCap)
}

// Rules that lead on very far: a name adds nothing to a tree, and a tree as deep as its cap is made.
func TestFarRules(t *testing.T) {
	const many = 1 << 16
	name := func(i int) api.Tree { return api.Tree{Kind: api.TreeName, Text: "r" + strconv.Itoa(i)} }
	times := func(least, most int, kid api.Tree) api.Tree {
		return api.Tree{Kind: api.TreeTimes, Min: least, Max: most, Kids: []api.Tree{kid}}
	}
	l := []api.Rule{{Name: "r0", Tree: api.Tree{Kind: api.TreeChars, Text: "x"}}}
	for i := 1; i < many; i++ {
		l = append(l, api.Rule{Name: "r" + strconv.Itoa(i), Tree: name(i - 1)})
	}
	for i := range many / 32 {
		l[32*i+1] = deepest(l[32*i+1].Name, name(32*i))
	}
	l = append(l, api.Rule{Name: "a", Tree: times(9999, 9999, name(many-1))})
	if r, err := Inline(api.Gram{Rules: l}, "a", 10000); err != api.OK || len(r.Kids) != 9999 || !reflect.DeepEqual(r.Kids[9998], set("xX")) {
		t.Error(len(r.Kids), err)
	}
	for i := range api.MaxRe {
		l[i+1].Tree = times(0, -1, name(i))
	}
	g := api.Gram{Rules: l}
	deep, err := Inline(g, "r19999", api.MaxRe)
	if err != api.OK || Size(deep) != api.MaxRe || !Right(deep) {
		t.Error(Size(deep), err)
	}
	wantErr(t, g, "r20000", api.MaxRe, api.ErrCap)
	wantErr(t, g, "a", api.MaxRe, api.ErrCap)
}

// P4.2: the errors, and which one is the first where there are several.
func TestErrors(t *testing.T) {
	good := gathered(t, `a = 2b; b = "x"`)
	wrong := api.Gram{Rules: append(parsed(t, `b = "x"; a = 2b`), parsed(t, "c = z")...)}
	for _, name := range []string{"a", "b", "z", "A", "", "aa", "\xff", "x"} {
		for _, most := range []int{math.MinInt, -1, 0, api.MaxRe + 1, math.MaxInt} {
			wantErr(t, good, name, most, api.ErrArg)
			wantErr(t, wrong, name, most, api.ErrArg)
			wantErr(t, api.Gram{}, name, most, api.ErrArg)
		}
		for _, most := range []int{1, 2, 3, api.MaxRe} {
			wantErr(t, wrong, name, most, api.ErrArg)
			wantErr(t, api.Gram{}, name, most, api.ErrNone)
			if name != "a" && name != "b" {
				wantErr(t, good, name, most, api.ErrNone)
			}
		}
	}
	wantErr(t, good, "a", 1, api.ErrCap)
	wantErr(t, good, "a", 2, api.ErrCap)
	for name, size := range map[string]int{"a": 3, "b": 1} {
		if r, err := Inline(good, name, size); err != api.OK || Size(r) != size {
			t.Error(name, r, err)
		}
	}
}

// P4.2: each of what makes a grammar wrong is told, wherever it is: ahead of the rule, in it, or behind it.
func TestWrongGrammars(t *testing.T) {
	good := parsed(t, `b = "x"; a = b; c = a b`)
	chars := api.Tree{Kind: api.TreeChars, Text: "x"}
	for _, rule := range []api.Rule{
		{Name: "d", More: true, Tree: chars}, {Name: "", Tree: chars}, {Name: "D", Tree: chars}, {Name: "d"}, {Name: "d", Tree: api.Tree{Kind: 8}},
		{Name: "d", Tree: api.Tree{Kind: api.TreeName, Text: "d"}}, {Name: "d", Tree: api.Tree{Kind: api.TreeName, Text: "z"}},
		{Name: "d", Tree: api.Tree{Kind: api.TreeRange, Lo: 2, Hi: 1}}, {Name: "d", Tree: api.Tree{Kind: api.TreeBytes}}, {Name: "d", Tree: api.Tree{Kind: api.TreeChars, Text: "\xff"}},
		{Name: "d", Tree: api.Tree{Kind: api.TreeOr, Kids: []api.Tree{chars}}}, {Name: "d", Tree: api.Tree{Kind: api.TreeRow, Text: "x", Kids: []api.Tree{chars, chars}}},
		{Name: "d", Tree: api.Tree{Kind: api.TreeTimes, Max: 1}}, {Name: "d", Tree: api.Tree{Kind: api.TreeTimes, Min: 2, Max: 1, Kids: []api.Tree{chars}}},
		{Name: "d", Tree: api.Tree{Kind: api.TreeTimes, Max: -2, Kids: []api.Tree{chars}}}, {Name: "d", Tree: api.Tree{Kind: api.TreeTimes, Max: 10000, Kids: []api.Tree{chars}}},
		deepest("d", api.Tree{Kind: api.TreeTimes, Min: 1, Max: 1, Kids: []api.Tree{chars}}),
	} {
		for at := range len(good) + 1 {
			g := api.Gram{Rules: slices.Insert(slices.Clone(good), at, rule)}
			for _, name := range []string{"a", "b", "c", "d", "z", rule.Name} {
				wantErr(t, g, name, api.MaxRe, api.ErrArg)
				wantErr(t, g, name, 1, api.ErrArg)
			}
		}
	}
	wantErr(t, api.Gram{Rules: parsed(t, `a = b; b = "x"`)}, "b", 1, api.ErrArg)
	wantErr(t, api.Gram{Rules: parsed(t, `a = "x"; a = "x"`)}, "a", 1, api.ErrArg)
	if r, err := Inline(api.Gram{Rules: append(slices.Clone(good), deepest("d", chars))}, "d", 1); err != api.OK || !reflect.DeepEqual(r, set("xX")) {
		t.Error("a tree that is as deep as may be:", r, err)
	}
}

// P4.1: each kind, with what it has, and with each of what it may not have, or lacks.
func TestRight(t *testing.T) {
	x, none := set("x"), []api.Re{}
	for i, c := range []struct {
		r     api.Re
		right bool
		size  int
	}{
		{empty, true, 1}, {api.Re{Kids: none}, true, 1}, {api.Re{Set: x.Set}, false, 1}, {api.Re{Kids: []api.Re{x}}, false, 2}, {api.Re{Kids: []api.Re{x, x}}, false, 3},
		{x, true, 1}, {api.Re{Kind: api.ReSet, Set: x.Set, Kids: none}, true, 1}, {api.Re{Kind: api.ReSet}, false, 1}, {api.Re{Kind: api.ReSet, Set: x.Set, Kids: []api.Re{x}}, false, 2},
		{cat(x, x), true, 3}, {cat(empty, empty, empty), true, 4}, {cat(x), false, 2}, {cat(), false, 1}, {api.Re{Kind: api.ReCat, Set: x.Set, Kids: []api.Re{x, x}}, false, 3},
		{alt(x, x), true, 3}, {alt(empty, empty, empty), true, 4}, {alt(x), false, 2}, {alt(), false, 1}, {api.Re{Kind: api.ReAlt, Set: x.Set, Kids: []api.Re{x, x}}, false, 3},
		{star(x), true, 2}, {star(empty), true, 2}, {re(api.ReStar), false, 1}, {re(api.ReStar, x, x), false, 3}, {api.Re{Kind: api.ReStar, Set: x.Set, Kids: []api.Re{x}}, false, 2},
		{re(5), false, 1}, {re(5, x), false, 2}, {re(5, x, x), false, 3}, {re(255, star(x)), false, 3}, {api.Re{Kind: 5, Set: x.Set}, false, 1},
	} {
		if Right(c.r) != c.right || Size(c.r) != c.size {
			t.Error(i, shown(c.r), Right(c.r), Size(c.r))
		}
		// The same within others, wherever it stands.
		for more, r := range map[int]api.Re{1: star(c.r), 2: cat(c.r, x), 3: alt(x, c.r, x), 4: alt(star(star(c.r)), x), 5: cat(x, x, star(star(c.r))), 6: cat(alt(x, x), alt(x, c.r))} {
			if Right(r) != c.right || Size(r) != c.size+more {
				t.Error(i, shown(r), Right(r), Size(r))
			}
		}
	}
	for b := range 256 {
		if !Right(set(bytesFrom(b, b))) {
			t.Error("a set of one byte is not right:", b)
		}
	}
}

// P4.1: trees that are very deep, and very broad: the calls end.
func TestGreatTrees(t *testing.T) {
	const many = 1 << 20
	for _, low := range []api.Re{set("x"), re(api.ReStar)} {
		deep := low
		for range many {
			deep = star(deep)
		}
		if Right(deep) != (low.Kind == api.ReSet) || Size(deep) != many+1 {
			t.Error(Right(deep), Size(deep))
		}
		list := slices.Repeat([]api.Re{set("x")}, many)
		list[many-1] = low
		if broad := cat(list...); Right(broad) != (low.Kind == api.ReSet) || Size(broad) != many+1 {
			t.Error(Right(broad), Size(broad))
		}
	}
	// Kids that are the same list count as often as they stand.
	r := set("x")
	for range 20 {
		r = cat(r, r)
	}
	if !Right(r) || Size(r) != 1<<21-1 {
		t.Error(Right(r), Size(r))
	}
}

// listsOf answers by the address of their first element how often lists of kids are in a regular tree, their spare room, too.
func listsOf(r api.Re) map[*api.Re]int {
	out := map[*api.Re]int{}
	var count func(kids []api.Re)
	count = func(kids []api.Re) {
		for i := range kids[:cap(kids)] {
			out[&kids[:cap(kids)][i]]++
		}
		for _, kid := range kids {
			count(kid.Kids)
		}
	}
	count(r.Kids)
	return out
}

// roomy answers trees whose lists have spare room, in which something stands.
func roomy(l []api.Tree) []api.Tree {
	out := append(slices.Clone(l), api.Tree{Text: "spare"})
	for i := range l {
		out[i].Kids = roomy(out[i].Kids)
	}
	return out[:len(l)]
}

// spread answers trees with what stands in their lists' spare room, so that it can be compared.
func spread(l []api.Tree) []api.Tree {
	out := slices.Clone(l[:cap(l)])
	for i := range out {
		out[i].Kids = spread(out[i].Kids)
	}
	return out
}

// treesOf answers the trees of a grammar's rules.
func treesOf(g api.Gram) []api.Tree {
	var trees []api.Tree
	for _, r := range g.Rules {
		trees = append(trees, r.Tree)
	}
	return trees
}

// What is handed in is not changed, its spare room neither; what is handed out is new, and no two lists of it share memory.
func TestMemory(t *testing.T) {
	g := gathered(t, `a = b b 3(c / b) *2("xy" c) 1*b [b]; b = "xy" / %x61.62 / c; c = *"vw" "z"`)
	for i := range g.Rules {
		g.Rules[i].Tree.Kids = roomy(g.Rules[i].Tree.Kids)
	}
	before := spread(treesOf(g))
	first, err := Inline(g, "a", api.MaxRe)
	second, _ := Inline(g, "a", api.MaxRe)
	if err != api.OK || !reflect.DeepEqual(first, second) || !reflect.DeepEqual(spread(treesOf(g)), before) {
		t.Error("Inline answers otherwise, or changed what it was handed:", err)
	}
	for list, many := range listsOf(cat(first, second)) {
		if many != 1 {
			t.Errorf("lists of a regular tree share memory: %v", *list)
		}
	}
	want := Size(second)
	clear(first.Kids)
	if third, _ := Inline(g, "a", api.MaxRe); !reflect.DeepEqual(second, third) || Size(third) != want {
		t.Error("an answer changes with another one")
	}
	spare := append([]api.Re{set("x"), set("y")}, cat(), star(empty))
	r := re(api.ReAlt, spare[:2]...)
	if !Right(r) || Size(r) != 3 || !reflect.DeepEqual(spare, []api.Re{set("x"), set("y"), cat(), star(empty)}) {
		t.Error("Right or Size looked at spare room, or changed it:", spare)
	}
}
