package rules

import (
	"reflect"
	"slices"
	"strconv"
	"strings"
	"testing"

	"franking/abnf"
	"franking/api"
	"franking/lex"
)

// parsed answers the rules of a text, in which ; stands for a line's end.
func parsed(t testing.TB, s string) []api.Rule {
	t.Helper()
	toks, at, err := lex.Lex(strings.ReplaceAll(s, "; ", "\n"))
	if err != api.OK {
		t.Fatalf("%.60q is cut into no tokens: %d at %d", s, err, at)
	}
	l, at, err := abnf.Parse(toks)
	if err != api.OK {
		t.Fatalf("%.60q is no rules: %d at %d", s, err, at)
	}
	return l
}

// gathered answers the grammar of a text that has no fault.
func gathered(t testing.TB, s string) api.Gram {
	t.Helper()
	g, name, err := Gather(parsed(t, s))
	if err != api.OK || name != "" {
		t.Fatalf("%.60q is no grammar: %d of %q", s, err, name)
	}
	return g
}

// printed answers the texts of rules, as one.
func printed(t testing.TB, l []api.Rule) string {
	t.Helper()
	var texts []string
	for _, r := range l {
		s, err := abnf.Print(r)
		if err != api.OK {
			t.Fatalf("%+v has no text", r)
		}
		texts = append(texts, s)
	}
	return strings.Join(texts, "; ")
}

// wantGram holds that the rules of a text are gathered as those of another text, in that order.
func wantGram(t *testing.T, s, want string) {
	t.Helper()
	g := gathered(t, s)
	if got := printed(t, g.Rules); got != want || !Right(g) {
		t.Errorf("%.60q:\n got %.200s\nwant %.200s", s, got, want)
	}
}

func wantErr(t *testing.T, s, name string, err api.Errno) {
	t.Helper()
	wantFault(t, parsed(t, s), name, err)
}

// namesOf answers the rules' names: their trees may be none that can be told.
func namesOf(l []api.Rule) []string {
	var names []string
	for _, r := range l {
		names = append(names, r.Name)
	}
	return names
}

func wantFault(t *testing.T, l []api.Rule, name string, err api.Errno) {
	t.Helper()
	g, gotName, gotErr := Gather(l)
	if gotErr != err || gotName != name || len(g.Rules) != 0 {
		t.Errorf("%.20q: got %d rules, %q, %d; want none, %q, %d", namesOf(l), len(g.Rules), gotName, gotErr, name, err)
	}
}

// nested answers the text of a tree so deep, which has a row of two at its lowest.
func nested(deep int, low string) string {
	return strings.Repeat("2(", deep-2) + low + strings.Repeat(")", deep-2)
}

// P3.1, P3.2: the chapter's examples.
func TestExamples(t *testing.T) {
	first := `a = b c; b = "x"; c = b`
	wantGram(t, first, `b = "x"; c = b; a = b c`)
	wantGram(t, `a = "x"; a =/ "y"`, `a = "x" / "y"`)
	wantErr(t, "a = b", "b", api.ErrNone)
	wantErr(t, "a = b; b = a", "a", api.ErrLoop)
	wantErr(t, `a = "x"; a = "y"`, "a", api.ErrTwice)
	wantErr(t, `a =/ "x"`, "a", api.ErrMore)
	wantLeads(t, gathered(t, first), "a", "b c")
}

// P3.1: the order of the grammar: what a rule leads to, from the left to the right, and then the rule.
func TestOrder(t *testing.T) {
	wantGram(t, "", "")
	wantGram(t, `a = "x"`, `a = "x"`)
	wantGram(t, `b = "x"; a = "y"; c = "z"`, `b = "x"; a = "y"; c = "z"`)
	wantGram(t, `a = b; b = c; c = "x"`, `c = "x"; b = c; a = b`)
	wantGram(t, `a = c b; b = "x"; c = "y"`, `c = "y"; b = "x"; a = c b`)
	wantGram(t, `a = b c; b = c; c = "y"`, `c = "y"; b = c; a = b c`)
	wantGram(t, `a = "x"; b = d c; c = a; d = "y"; e = c f; f = d`, `a = "x"; d = "y"; c = a; b = d c; f = d; e = c f`)
	wantGram(t, `a = b b b; b = "x"`, `b = "x"; a = b b b`)
	// In each kind of tree, and of what stands no times, too.
	wantGram(t, `a = [e] 2(d / c) / 0b; b = "1"; c = "2"; d = "3"; e = %x34`, `e = %x34; d = "3"; c = "2"; b = "1"; a = *1e 2(d / c) / 0b`)
	wantGram(t, `a = *(1*(c) (b / "d")); b = "1"; c = "2"; d = "3"`, `c = "2"; b = "1"; a = *(1*c (b / "d")); d = "3"`)
	// Texts that look like names are none.
	wantGram(t, `a = "b" %x62 / %x62-63`, `a = "b" %x62 / %x62-63`)
	// Names that begin with one another are others.
	wantGram(t, `a = aa a-; aa = a-; a- = "x"`, `a- = "x"; aa = a-; a = aa a-`)
}

// P3.1: what was more of a rule: TreeOr of all, in their order, of which none is taken apart; the rule stands where it was first.
func TestMore(t *testing.T) {
	wantGram(t, `a = "x"; a =/ "y"; a =/ "z"`, `a = "x" / "y" / "z"`)
	wantGram(t, `a = "x" / "w"; a =/ "y"`, `a = ("x" / "w") / "y"`)
	wantGram(t, `a = "x" / "w"; a =/ "y" / "z"; a =/ "v"`, `a = ("x" / "w") / ("y" / "z") / "v"`)
	wantGram(t, `a = "x" "w"; a =/ 2"y"; a =/ "x" "w"`, `a = "x" "w" / 2"y" / "x" "w"`)
	wantGram(t, `a = "x"; b = "y"; a =/ "z"; b =/ "v"; a =/ "w"`, `a = "x" / "z" / "w"; b = "y" / "v"`)
	wantGram(t, `a = "x"; b = "y"; a =/ b`, `b = "y"; a = "x" / b`)
	wantGram(t, `a = b; b = "y"; c = "z"; a =/ c`, `b = "y"; c = "z"; a = b / c`)
	wantGram(t, `a = c; b = "y"; c = "z"; c =/ b`, `b = "y"; c = "z" / b; a = c`)
}

// P3.1: a rule's At is that of its first one, and it is not More.
func TestPlaces(t *testing.T) {
	l := parsed(t, `a = b; b = "x"; a =/ "y"; b =/ "z"`)
	if l[0].At != 0 || l[1].At != 6 {
		t.Fatal(l)
	}
	l[3].At = -7
	g, _, err := Gather(l)
	if err != api.OK || len(g.Rules) != 2 || g.Rules[0].At != 6 || g.Rules[1].At != 0 || g.Rules[0].More || g.Rules[1].More {
		t.Error(g, err)
	}
	l[0].At, l[1].At = -1<<63, 1<<63-1
	g, _, err = Gather(l)
	if err != api.OK || len(g.Rules) != 2 || g.Rules[0].At != 1<<63-1 || g.Rules[1].At != -1<<63 {
		t.Error(g, err)
	}
}

// P3.1: ErrArg, and no name, of each rule that is none; ahead of every other error.
func TestErrArg(t *testing.T) {
	fine := api.Tree{Kind: api.TreeChars, Text: "x"}
	var wrong []api.Rule
	for _, name := range []string{"", "A", "aB", "1", "-", "1a", "-a", "a_", "a b", " a", "a\n", "a\x00", "é", "a\xff", "a.", "a="} {
		wrong = append(wrong, api.Rule{Name: name, Tree: fine})
	}
	deep := fine
	for range 100 {
		deep = api.Tree{Kind: api.TreeTimes, Max: 1, Kids: []api.Tree{deep}}
	}
	round := []api.Tree{{Kind: api.TreeOr}, {Kind: api.TreeOr}}
	round[0].Kids, round[1].Kids = round, round
	for _, tree := range []api.Tree{
		{}, {Kind: 8, Text: "x"}, {Kind: api.TreeName}, {Kind: api.TreeName, Text: "B"}, {Kind: api.TreeBytes}, {Kind: api.TreeRange, Lo: 2, Hi: 1},
		{Kind: api.TreeChars, Text: "x", Kids: []api.Tree{fine}}, {Kind: api.TreeRow, Kids: []api.Tree{fine}}, {Kind: api.TreeOr, Kids: []api.Tree{fine, {}}}, deep, round[0],
	} {
		wrong = append(wrong, api.Rule{Name: "a", Tree: tree})
	}
	b := api.Rule{Name: "b", Tree: fine}
	for i, w := range wrong {
		for _, w.More = range []bool{false, true} {
			wantFault(t, []api.Rule{w}, "", api.ErrArg)
			wantFault(t, []api.Rule{b, w}, "", api.ErrArg)
			wantFault(t, []api.Rule{w, b}, "", api.ErrArg)
			wantFault(t, append(parsed(t, `b = "x"; b = "y"`), w), "", api.ErrArg)
			wantFault(t, append(parsed(t, `b =/ "x"`), w), "", api.ErrArg)
			wantFault(t, append(parsed(t, "b = "+nested(100, "c d")+`; b =/ "y"`), w), "", api.ErrArg)
			wantFault(t, append(parsed(t, "b = c"), w), "", api.ErrArg)
			wantFault(t, append(parsed(t, "b = b"), w), "", api.ErrArg)
		}
		w.More = false
		if Right(api.Gram{Rules: []api.Rule{b, w}}) {
			t.Errorf("a grammar is right with the rule %d, which is none: %q", i, w.Name)
		}
	}
}

// P3.1: ErrTwice and ErrMore, rule by rule.
func TestTwiceAndMore(t *testing.T) {
	wantErr(t, "a = a; b = b; b = b; a = a", "b", api.ErrTwice)
	wantErr(t, "a = b; a = b; a =/ b", "a", api.ErrTwice)
	wantErr(t, `a = "x"; a =/ "y"; a = "z"`, "a", api.ErrTwice)
	wantErr(t, `a =/ "x"; a = "y"`, "a", api.ErrMore)
	wantErr(t, `a =/ "x"; a =/ "y"`, "a", api.ErrMore)
	wantErr(t, `a = "x"; c =/ "y"; b =/ "y"`, "c", api.ErrMore)
	wantErr(t, `a = "x"; a = "y"; b =/ "z"`, "a", api.ErrTwice)
	wantErr(t, `a = "x"; b =/ "z"; a = "y"`, "b", api.ErrMore)
	wantErr(t, `a = "x"; aa =/ "y"`, "aa", api.ErrMore)
	// A name that is in a rule is not there by that.
	wantErr(t, `a = b; b =/ "y"`, "b", api.ErrMore)
}

// P3.1: ErrDeep of what is too deep by what was more, of the first one as they stand.
func TestDeep(t *testing.T) {
	for _, c := range []struct {
		one, more int
		err       api.Errno
	}{
		{99, 2, api.OK}, {100, 2, api.ErrDeep}, {2, 99, api.OK}, {2, 100, api.ErrDeep}, {99, 99, api.OK}, {100, 100, api.ErrDeep},
	} {
		s := "r = " + nested(c.one, "a a") + "; r =/ " + nested(c.more, "a a") + `; a = "x"`
		name := ""
		if c.err != api.OK {
			name = "r"
		}
		if g, gotName, err := Gather(parsed(t, s)); err != c.err || gotName != name || (len(g.Rules) == 2) != (err == api.OK) {
			t.Error(c, gotName, err)
		}
	}
	hundred := nested(100, "a a")
	wantGram(t, "r = "+hundred+`; a = "x"`, `a = "x"; r = `+hundred)
	late := "; a = \"x\"; r =/ a; r =/ " + hundred
	wantErr(t, "r = a"+late, "r", api.ErrDeep)
	wantErr(t, "s = "+hundred+"; r = "+hundred+`; r =/ "y"; s =/ "y"`, "s", api.ErrDeep)
	wantErr(t, "s = a; r = "+hundred+`; s =/ "y"; r =/ "y"`, "r", api.ErrDeep)
}

// P3.1: ErrNone with the first name that no rule has.
func TestNone(t *testing.T) {
	wantErr(t, `a = "x" d c; b = e`, "d", api.ErrNone)
	wantErr(t, `a = b; b = "x" c / e; d = f`, "c", api.ErrNone)
	wantErr(t, `a = b; d = f; b = "x" c`, "f", api.ErrNone)
	wantErr(t, `b = "x"; a = b *(2(b [z] / y) x)`, "z", api.ErrNone)
	wantErr(t, `a = "x"; b = z; a =/ y`, "y", api.ErrNone)
	wantErr(t, `a = 0b`, "b", api.ErrNone)
	wantErr(t, `a = aa`, "aa", api.ErrNone)
}

// P3.1: ErrLoop with the first rule, as they stand, that leads to itself, wherever a way meets it.
func TestLoop(t *testing.T) {
	wantErr(t, "a = a", "a", api.ErrLoop)
	wantErr(t, `a = "x" / [0a]`, "a", api.ErrLoop)
	wantErr(t, `a = "x"; a =/ a`, "a", api.ErrLoop)
	wantErr(t, `a = b; b = c; c = b`, "b", api.ErrLoop)
	wantErr(t, `a = c; b = c; c = b`, "b", api.ErrLoop)
	wantErr(t, `x = b; a = a; b = b`, "a", api.ErrLoop)
	wantErr(t, `x = b; a = "x"; b = a b`, "b", api.ErrLoop)
	wantErr(t, `x = c a; a = "x"; b = c; c = d; d = b`, "b", api.ErrLoop)
	// Between two loops, and on none.
	wantErr(t, `m = r; l = l m; r = r`, "l", api.ErrLoop)
	wantErr(t, `m = r; r = r; l = l m`, "r", api.ErrLoop)
	// Two loops that share a rule.
	wantErr(t, `x = s; b = s; a = s; s = a b`, "b", api.ErrLoop)
	wantGram(t, `a = b c; b = d; c = d; d = "x"`, `d = "x"; b = d; c = d; a = b c`)
}

// P3.1: of several errors the one that is named first, however early in the text the other one is.
func TestFirstError(t *testing.T) {
	deep := "d = " + nested(100, `"x" "x"`) + `; d =/ "y"`
	for _, twice := range []string{`t = "x"; t = "y"`, `t =/ "x"`} {
		err := api.ErrTwice
		if !strings.Contains(twice, "; ") {
			err = api.ErrMore
		}
		for _, other := range []string{deep, "n = m", "l = l", deep + "; n = m; l = l"} {
			wantErr(t, other+"; "+twice, "t", err)
			wantErr(t, twice+"; "+other, "t", err)
		}
	}
	for _, other := range []string{"n = m", "l = l", "n = m; l = l"} {
		wantErr(t, other+"; "+deep, "d", api.ErrDeep)
		wantErr(t, deep+"; "+other, "d", api.ErrDeep)
	}
	wantErr(t, "l = l; n = m", "m", api.ErrNone)
	wantErr(t, "n = m; l = l", "m", api.ErrNone)
	wantErr(t, "a = a b", "b", api.ErrNone)
}

// P3.2: each of what a right grammar has, taken away.
func TestRight(t *testing.T) {
	good := `b = "x"; c = b; d = *1(2(c / b) "y")`
	if !Right(api.Gram{}) || !Right(api.Gram{Rules: []api.Rule{}}) || !Right(api.Gram{Rules: parsed(t, good)}) || !Right(api.Gram{Rules: parsed(t, `b = "x"; a = "y"; z = a b`)}) {
		t.Error("a right grammar is not right")
	}
	for _, s := range []string{
		`b =/ "x"`, `b = "x"; c =/ b`, `b = "x"; b = "y"`, `b = "x"; c = "y"; b = "z"`, `b = "x"; b =/ "y"`,
		"b = c", "b = b", `b = "x"; b = b`, `c = b; b = "x"`, `b = "x"; d = b c; c = b`, `b = "x"; d = [b / 2(b b)] "y" *z`, "b = 0c",
	} {
		if Right(api.Gram{Rules: parsed(t, s)}) {
			t.Errorf("Right(%q): true", s)
		}
	}
	odd := parsed(t, good)
	odd[0].At, odd[1].At = -5, -5
	if !Right(api.Gram{Rules: odd}) {
		t.Error("places of rules make a grammar wrong")
	}
	for i := range odd {
		one := slices.Clone(odd)
		one[i].Name = strings.ToUpper(one[i].Name)
		if Right(api.Gram{Rules: one}) {
			t.Error("a name that is none is right:", i)
		}
	}
	for _, wrong := range []api.Tree{{}, {Kind: api.TreeName, Text: "b", Min: 1}, {Kind: api.TreeOr, Kids: odd[2].Tree.Kids}} {
		one := slices.Clone(odd)
		one[2].Tree = wrong
		if Right(api.Gram{Rules: one}) {
			t.Errorf("a tree that is not right is: %+v", wrong)
		}
	}
}

func wantFound(t *testing.T, l []api.Rule, name string, at int, ok bool) {
	t.Helper()
	if got, gotOk := Find(api.Gram{Rules: l}, name); got != at || gotOk != ok {
		t.Errorf("Find(%.100v, %q): %d, %v; want %d, %v", l, name, got, gotOk, at, ok)
	}
}

// P3.2: Find, of right grammars and of any others.
func TestFind(t *testing.T) {
	l := parsed(t, `b = "x"; c = b; d = z; c =/ c`)
	for i, name := range []string{"b", "c", "d"} {
		wantFound(t, l, name, i, true)
	}
	for _, name := range []string{"", "a", "z", "B", "bb", "b ", "\xff"} {
		wantFound(t, l, name, 0, false)
		wantFound(t, nil, name, 0, false)
		wantFound(t, []api.Rule{l[0], {Name: name}, {Name: name, More: true}}, name, 1, true)
	}
}

func wantLeads(t *testing.T, g api.Gram, name, want string) {
	t.Helper()
	if got, ok := Leads(g, name); !ok || strings.Join(got, " ") != want {
		t.Errorf("Leads(%.100v, %q): %q, %v; want %q", g, name, got, ok, want)
	}
}

func wantNoLeads(t *testing.T, g api.Gram, name string) {
	t.Helper()
	if got, ok := Leads(g, name); ok || len(got) != 0 {
		t.Errorf("Leads(%.100v, %q): %q, %v; want nothing", g, name, got, ok)
	}
}

// P3.2: Leads, in the order of the grammar, whatever order the names have in the trees.
func TestLeads(t *testing.T) {
	g := api.Gram{Rules: parsed(t, `b = "b"; a = "a"; z = b; y = a b a; x = [z] 2(y / "c"); w = "w"; v = w x w`)}
	for name, want := range map[string]string{"b": "", "a": "", "z": "b", "y": "b a", "x": "b a z y", "w": "", "v": "b a z y x w"} {
		wantLeads(t, g, name, want)
	}
	for _, name := range []string{"", "c", "B", "vv", " v"} {
		wantNoLeads(t, g, name)
		wantNoLeads(t, api.Gram{}, name)
	}
	for _, s := range []string{`b = "x"; c = b; d = d`, `b = "x"; c = b; c = b`, `b = "x"; c = b; d =/ c`, `c = b; b = "x"`, `c = b`} {
		wantNoLeads(t, api.Gram{Rules: parsed(t, s)}, "c")
		wantNoLeads(t, api.Gram{Rules: parsed(t, s)}, "b")
	}
}

// numbered answers many rules, of which each one has the names in it that are told of its number.
func numbered(many int, on func(i int) []int) []api.Rule {
	var l []api.Rule
	for i := range many {
		tree := api.Tree{Kind: api.TreeOr, Kids: []api.Tree{{Kind: api.TreeChars, Text: "x"}, {Kind: api.TreeChars, Text: "y"}}}
		for _, next := range on(i) {
			tree.Kids = append(tree.Kids, api.Tree{Kind: api.TreeName, Text: "r" + strconv.Itoa(next)})
		}
		l = append(l, api.Rule{Name: "r" + strconv.Itoa(i), At: i, Tree: tree})
	}
	return l
}

// Rules that lead on very far, and very many of them: the calls end, and soon.
func TestManyRules(t *testing.T) {
	const many = 1 << 16
	on := numbered(many, func(i int) []int { return []int{i + 1}[:min(1, many-1-i)] })
	g, name, err := Gather(on)
	if err != api.OK || name != "" || len(g.Rules) != many || g.Rules[0].Name != on[many-1].Name || !Right(g) {
		t.Error(len(g.Rules), name, err)
	}
	if l, ok := Leads(g, "r0"); !ok || len(l) != many-1 || l[0] != on[many-1].Name {
		t.Error(len(l), ok)
	}
	back := numbered(many, func(i int) []int { return []int{i - 1, max(i-2, 0)}[:min(2, i)] })
	if g, name, err := Gather(back); err != api.OK || name != "" || len(g.Rules) != many || g.Rules[0].Name != "r0" {
		t.Error(len(g.Rules), name, err)
	}
	wantLong := func(l []api.Rule, name string) {
		t.Helper()
		if g, got, err := Gather(l); err != api.ErrLoop || got != name || len(g.Rules) != 0 {
			t.Error(len(g.Rules), got, err)
		}
	}
	wantLong(numbered(many, func(i int) []int { return []int{(i + 1) % many} }), "r0")
	wantLong(numbered(many, func(i int) []int { return []int{min(i+1, many-1)} }), "r"+strconv.Itoa(many-1))
	wantLong(numbered(many, func(i int) []int { return []int{(i + 1) % many, max(i-1, 0)} }), "r0")
}

// lists answers by the address of their first element how often lists of kids are in rules.
func lists(l []api.Rule) map[*api.Tree]int {
	out := map[*api.Tree]int{}
	var count func(kids []api.Tree)
	count = func(kids []api.Tree) {
		if cap(kids) > 0 {
			out[&kids[:1][0]]++
		}
		for _, kid := range kids {
			count(kid.Kids)
		}
	}
	for _, r := range l {
		count(r.Tree.Kids)
	}
	return out
}

// roomy answers rules whose lists have spare room, in which something stands.
func roomy(t *testing.T, s string) []api.Rule {
	var trees func(l []api.Tree) []api.Tree
	trees = func(l []api.Tree) []api.Tree {
		out := append(slices.Clone(l), api.Tree{Text: "spare"})
		for i := range l {
			out[i].Kids = trees(out[i].Kids)
		}
		return out[:len(l)]
	}
	out := append(parsed(t, s), api.Rule{Name: "spare"})
	for i := range out {
		out[i].Tree.Kids = trees(out[i].Tree.Kids)
	}
	return out[:len(out)-1]
}

// spread answers rules with what stands in their lists' spare room, so that it can be compared.
func spread(l []api.Rule) []api.Rule {
	var trees func(l []api.Tree) []api.Tree
	trees = func(l []api.Tree) []api.Tree {
		out := slices.Clone(l[:cap(l)])
		for i := range out {
			out[i].Kids = trees(out[i].Kids)
		}
		return out
	}
	out := slices.Clone(l[:cap(l)])
	for i := range out {
		out[i].Tree.Kids = trees(out[i].Tree.Kids)
	}
	return out
}

// What is handed in is not changed, its spare room neither; what is handed out is new, and no two lists of it share memory.
func TestMemory(t *testing.T) {
	const s = `a = 2(b / c "x") [c]; b = "y" / "z" / c; b =/ c c; c = "v"; b =/ 3(c c); d = a; a =/ b`
	l := roomy(t, s)
	l[5].Tree = l[0].Tree // One tree that two rules have.
	before := spread(l)
	g, _, err := Gather(l)
	if err != api.OK || !reflect.DeepEqual(spread(l), before) {
		t.Error("Gather changed what it was handed:", err)
	}
	given := lists(l)
	for list, many := range lists(g.Rules) {
		if many != 1 || given[list] != 0 {
			t.Error("lists of a grammar's trees share memory")
		}
	}
	want := printed(t, g.Rules)
	for i := range l {
		clear(l[i].Tree.Kids)
	}
	if printed(t, g.Rules) != want {
		t.Error("a grammar changes with what it was gathered of")
	}
	gram := api.Gram{Rules: roomy(t, `b = "y" / "z"; c = 2(b b); d = c [b]`)}
	before = spread(gram.Rules)
	first, _ := Leads(gram, "d")
	second, _ := Leads(gram, "d")
	clear(first)
	Find(gram, "d")
	Right(gram)
	if !slices.Equal(second, []string{"b", "c"}) || !reflect.DeepEqual(spread(gram.Rules), before) {
		t.Error("Leads, Find or Right changed something")
	}
}
