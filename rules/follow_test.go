package rules

import (
	"math/rand"
	"reflect"
	"slices"
	"strings"
	"testing"

	"franking/abnf"
	"franking/api"
	"franking/lex"
)

// The chapter's words once more, as plainly as may be, to hold the package against.

// plainRule is a rule that stands, of as many choices as were given of it.
type plainRule struct {
	name    string
	at      int
	choices []api.Tree
}

func (p plainRule) rule() api.Rule {
	if len(p.choices) == 1 {
		return api.Rule{Name: p.name, At: p.at, Tree: p.choices[0]}
	}
	return api.Rule{Name: p.name, At: p.at, Tree: api.Tree{Kind: api.TreeOr, Kids: p.choices}}
}

// plainNames answers the names that a rule has in it: those of its text's tokens, behind its own.
func plainNames(t testing.TB, r api.Rule) []string {
	t.Helper()
	s, _ := abnf.Print(r)
	toks, _, err := lex.Lex(s)
	if err != api.OK {
		t.Fatalf("%q is cut into no tokens", s)
	}
	var names []string
	for _, tok := range toks[1:] {
		if tok.Kind == api.TokName {
			names = append(names, tok.Text)
		}
	}
	return names
}

// plainLeads answers of each name which ones it leads to: more is found as long as there is more.
func plainLeads(t testing.TB, l []api.Rule) map[string]map[string]bool {
	t.Helper()
	leads := map[string]map[string]bool{}
	for _, r := range l {
		leads[r.Name] = map[string]bool{}
		for _, name := range plainNames(t, r) {
			leads[r.Name][name] = true
		}
	}
	for found := true; found; {
		found = false
		for _, to := range leads {
			for next := range leads {
				for beyond := range leads[next] {
					if to[next] && !to[beyond] {
						to[beyond], found = true, true
					}
				}
			}
		}
	}
	return leads
}

// plainStand answers the rules as they stand, or the first error of rules that are taken one by one.
func plainStand(l []api.Rule) ([]api.Rule, string, api.Errno) {
	var stand []plainRule
	for _, r := range l {
		i := slices.IndexFunc(stand, func(p plainRule) bool { return p.name == r.Name })
		switch {
		case i < 0 && r.More:
			return nil, r.Name, api.ErrMore
		case i >= 0 && !r.More:
			return nil, r.Name, api.ErrTwice
		case i < 0:
			stand = append(stand, plainRule{r.Name, r.At, []api.Tree{r.Tree}})
		default:
			stand[i].choices = append(stand[i].choices, r.Tree)
		}
	}
	var out []api.Rule
	for _, p := range stand {
		out = append(out, p.rule())
	}
	return out, "", api.OK
}

// plainGather answers what Gather is to answer of rules that have names and right trees.
func plainGather(t testing.TB, l []api.Rule) ([]api.Rule, string, api.Errno) {
	t.Helper()
	stand, name, err := plainStand(l)
	if err != api.OK {
		return nil, name, err
	}
	for _, r := range stand {
		if !abnf.Right(r.Tree) {
			return nil, r.Name, api.ErrDeep
		}
	}
	byName := map[string]api.Rule{}
	for _, r := range stand {
		byName[r.Name] = r
	}
	for _, r := range stand {
		for _, name := range plainNames(t, r) {
			if byName[name].Name == "" {
				return nil, name, api.ErrNone
			}
		}
	}
	leads := plainLeads(t, stand)
	for _, r := range stand {
		if leads[r.Name][r.Name] {
			return nil, r.Name, api.ErrLoop
		}
	}
	var order []api.Rule
	been := map[string]bool{}
	var way func(r api.Rule)
	way = func(r api.Rule) {
		if been[r.Name] {
			return
		}
		been[r.Name] = true
		for _, name := range plainNames(t, r) {
			way(byName[name])
		}
		order = append(order, r)
	}
	for _, r := range stand {
		way(r)
	}
	return order, "", api.OK
}

// plainRight answers what Right is to answer of rules that have right trees, and names.
func plainRight(t testing.TB, l []api.Rule) bool {
	t.Helper()
	for i, r := range l {
		ahead := func(name string) bool {
			return slices.ContainsFunc(l[:i], func(other api.Rule) bool { return other.Name == name })
		}
		if r.More || ahead(r.Name) || slices.ContainsFunc(plainNames(t, r), func(name string) bool { return !ahead(name) }) {
			return false
		}
	}
	return true
}

// checkGather holds all calls against the chapter's words; it answers the error.
func checkGather(t testing.TB, l []api.Rule) api.Errno {
	t.Helper()
	want, wantName, wantErr := plainGather(t, l)
	g, name, err := Gather(l)
	if err != wantErr || name != wantName || len(g.Rules) != len(want) || len(want) > 0 && !reflect.DeepEqual(g.Rules, want) {
		t.Fatalf("%s:\n got %+v, %q, %d\nwant %+v, %q, %d", printed(t, l), g.Rules, name, err, want, wantName, wantErr)
	}
	for _, gram := range []api.Gram{g, {Rules: l}} {
		checkGram(t, gram)
	}
	if err == api.OK {
		checkFollows(t, l, g)
	}
	return err
}

// checkGram holds Right, Find and Leads against the chapter's words, of any rules that have names and right trees.
func checkGram(t testing.TB, g api.Gram) {
	t.Helper()
	right := plainRight(t, g.Rules)
	if Right(g) != right {
		t.Fatalf("Right(%s): %v", printed(t, g.Rules), !right)
	}
	var leads map[string]map[string]bool
	if right {
		leads = plainLeads(t, g.Rules)
	}
	for _, name := range []string{"a", "b", "c", "d", "e", "f"} {
		at, ok := Find(g, name)
		if want := slices.IndexFunc(g.Rules, func(r api.Rule) bool { return r.Name == name }); max(want, 0) != at || ok != (want >= 0) {
			t.Fatalf("Find(%s, %s): %d, %v", printed(t, g.Rules), name, at, ok)
		}
		var want []string
		for _, r := range g.Rules {
			if leads[name][r.Name] {
				want = append(want, r.Name)
			}
		}
		if got, led := Leads(g, name); led != (right && ok) || !slices.Equal(got, want) {
			t.Fatalf("Leads(%s, %s): %q, %v; want %q", printed(t, g.Rules), name, got, led, want)
		}
	}
}

// checkFollows holds P3.3 of what was gathered: it is right, it has just the rules that were given, and it is gathered as itself.
func checkFollows(t testing.TB, l []api.Rule, g api.Gram) {
	t.Helper()
	if !Right(g) {
		t.Fatalf("%s is not right", printed(t, g.Rules))
	}
	var names, given []string
	var choices, parts []string
	for _, r := range l {
		parts = append(parts, printed(t, []api.Rule{{Name: r.Name, Tree: r.Tree}}))
		if !r.More {
			given = append(given, r.Name)
		}
	}
	for _, r := range g.Rules {
		names = append(names, r.Name)
		trees := []api.Tree{r.Tree}
		if slices.ContainsFunc(l, func(other api.Rule) bool { return other.More && other.Name == r.Name }) {
			trees = r.Tree.Kids
		}
		for _, tree := range trees {
			choices = append(choices, printed(t, []api.Rule{{Name: r.Name, Tree: tree}}))
		}
	}
	for _, list := range [][]string{names, given, choices, parts} {
		slices.Sort(list)
	}
	if !slices.Equal(names, given) || !slices.Equal(choices, parts) {
		t.Fatalf("%s: gathered as %s", printed(t, l), printed(t, g.Rules))
	}
	if again, _, err := Gather(g.Rules); err != api.OK || !reflect.DeepEqual(again, g) {
		t.Fatalf("%s is gathered otherwise", printed(t, g.Rules))
	}
}

// P3.1 to P3.3: all short lists of rules.
func TestShortLists(t *testing.T) {
	var all []api.Rule
	for _, name := range []string{"a", "b", "c"} {
		for _, sign := range []string{" = ", " =/ "} {
			for _, tree := range []string{`"x"`, "a", "b", "c", "[c] b / a"} {
				all = append(all, parsed(t, name+sign+tree)...)
			}
		}
	}
	many := map[api.Errno]int{}
	var grow func(l []api.Rule)
	grow = func(l []api.Rule) {
		many[checkGather(t, l)]++
		if len(l) == 3 {
			return
		}
		for _, r := range all {
			r.At = 10 * len(l)
			grow(append(slices.Clone(l), r))
		}
	}
	grow(nil)
	for _, err := range []api.Errno{api.OK, api.ErrTwice, api.ErrMore, api.ErrNone, api.ErrLoop} {
		if many[err] < 20 {
			t.Error("hardly any lists were looked at:", many)
		}
	}
}

// randTree answers a tree's text of some of the names, at most so deep.
func randTree(r *rand.Rand, names string, deep int) string {
	leaf := func() string {
		if i := r.Intn(len(names) + 1); i < len(names) {
			return names[i : i+1]
		}
		return []string{`"a"`, "%x62", "%x61-7A", `""`}[r.Intn(4)]
	}
	if deep == 1 || r.Intn(3) == 0 {
		return leaf()
	}
	sides := []string{randTree(r, names, deep-1), randTree(r, names, deep-1)}
	switch r.Intn(4) {
	case 0:
		return "(" + strings.Join(sides, " / ") + ")"
	case 1:
		return "(" + strings.Join(sides, " ") + ")"
	case 2:
		return "[" + sides[0] + "]"
	}
	return []string{"2(", "*(", "0("}[r.Intn(3)] + sides[0] + ")"
}

// randRules answers rules of names from a to f. For the most part a rule has those names alone in it that come later, and each name is there once, so that most lists are grammars.
func randRules(t testing.TB, r *rand.Rand) []api.Rule {
	all := "abcdef"[:2+r.Intn(5)]
	perm := r.Perm(len(all))
	var lines []string
	for place, i := range perm {
		behind := ""
		for _, other := range perm[place+1:] {
			behind += all[other : other+1]
		}
		if r.Intn(12) == 0 {
			behind = "abcdef"
		}
		lines = append(lines, all[i:i+1]+" = "+randTree(r, behind, 4))
		for range r.Intn(3) / 2 * (1 + r.Intn(2)) {
			lines = append(lines, all[i:i+1]+" =/ "+randTree(r, behind, 3))
		}
	}
	if r.Intn(10) == 0 {
		sign := []string{" = ", " =/ "}[r.Intn(2)]
		lines = append(lines, "abcdef"[r.Intn(6):][:1]+sign+randTree(r, all, 2))
	}
	if r.Intn(2) == 0 {
		r.Shuffle(len(lines), func(i, j int) { lines[i], lines[j] = lines[j], lines[i] })
	}
	return parsed(t, strings.Join(lines, "; "))
}

// P3.1 to P3.3: greater lists.
func TestGreaterLists(t *testing.T) {
	r := rand.New(rand.NewSource(3))
	many := map[api.Errno]int{}
	for range 8000 {
		many[checkGather(t, randRules(t, r))]++
	}
	for _, err := range []api.Errno{api.OK, api.ErrTwice, api.ErrMore, api.ErrNone, api.ErrLoop} {
		if many[err] < 100 {
			t.Error("hardly any lists were looked at:", many)
		}
	}
}

// inOtherOrders calls for each order of the rules in which no more of a rule is ahead of it, and more of one is in the same order.
func inOtherOrders(l []api.Rule, call func([]api.Rule)) {
	var grow func(done, rest []api.Rule)
	grow = func(done, rest []api.Rule) {
		if len(rest) == 0 {
			call(done)
		}
		for i, r := range rest {
			waits := func(other api.Rule) bool { return other.Name == r.Name && r.More }
			behind := !r.More || slices.ContainsFunc(done, waits) || !slices.ContainsFunc(l, func(other api.Rule) bool { return waits(other) && !other.More })
			if behind && !slices.ContainsFunc(rest[:i], waits) {
				grow(append(slices.Clone(done), r), slices.Concat(rest[:i], rest[i+1:]))
			}
		}
	}
	grow(nil, l)
}

// sorted answers a grammar's rules by their names.
func sorted(g api.Gram) []api.Rule {
	return slices.SortedFunc(slices.Values(g.Rules), func(a, b api.Rule) int { return strings.Compare(a.Name, b.Name) })
}

// checkOrders holds P3.3: in other orders the same rules are there, and an error is of the same kind. It answers how many orders there are.
func checkOrders(t *testing.T, l []api.Rule) int {
	t.Helper()
	many := 0
	var want []api.Rule
	var wantErr api.Errno
	inOtherOrders(l, func(other []api.Rule) {
		g, _, err := Gather(other)
		if many == 0 {
			want, wantErr = sorted(g), err
		}
		many++
		if got := sorted(g); err != wantErr || !reflect.DeepEqual(got, want) {
			t.Fatalf("%s, as %s:\n got %+v, %d\nwant %+v, %d", printed(t, l), printed(t, other), got, err, want, wantErr)
		}
	})
	return many
}

// P3.3: all orders of rules.
func TestOrders(t *testing.T) {
	if many := checkOrders(t, parsed(t, `a = b c; b = "x"; c = b; a =/ c; a =/ "y"`)); many != 20 {
		t.Error("not all orders were looked at:", many)
	}
	for _, s := range []string{
		`a = b; b = c; c = d; d = "x"; e = a c`, "a = b; b = c; c = a; d = e; e = d", "a = b; b = z; c = y; d = c", `a = "x"; b = a; a = b; a =/ b`, `a =/ "x"; b =/ "y"; c = c; d = z`,
		"a = " + nested(100, `"x" b`) + `; a =/ b; b = a; b =/ c; d = d`,
	} {
		checkOrders(t, parsed(t, s))
	}
	r := rand.New(rand.NewSource(4))
	for many := 0; many < 20000; {
		l := randRules(t, r)
		_, _, err := Gather(l)
		// Which of ErrTwice and ErrMore counts, if a list has both, hangs on their order.
		if len(l) <= 5 && err != api.ErrTwice && err != api.ErrMore {
			many += checkOrders(t, l)
		}
	}
}

func FuzzGather(f *testing.F) {
	f.Add("a = b c\nb = \"x\"\nc = [b] / 2(b \"y\")\na =/ c")
	f.Add("a = b\nb = c / d\nd = \"x\"\nc = a\nb =/ e")
	f.Fuzz(func(t *testing.T, s string) {
		toks, _, err := lex.Lex(s)
		if err != api.OK || len(s) > 2000 {
			return
		}
		if l, _, err := abnf.Parse(toks); err == api.OK {
			checkGather(t, l)
		}
	})
}
