package least

import (
	"math/rand"
	"slices"
	"strconv"
	"testing"

	"franking/abnf"
	"franking/api"
	"franking/classes"
	"franking/dfa"
	"franking/lex"
	"franking/nfa"
	"franking/regex"
	"franking/rules"
)

// The chapter's words once more, as plainly as may be, to hold the package against.

// comes answers where a state comes by a class.
func comes(d api.Dfa, state, class int) int {
	if state == -1 {
		return -1
	}
	return d.Next[state*d.Many+class]
}

func tagOf(d api.Dfa, state int) int {
	if state == -1 {
		return -1
	}
	return d.Tags[state]
}

// pair is two states.
type pair struct{ a, b int }

// plainApart answers all pairs of states that are not alike: it goes on until there are no others.
func plainApart(d api.Dfa) map[pair]bool {
	apart := map[pair]bool{}
	for more := true; more; {
		more = false
		for a := -1; a < len(d.Tags); a++ {
			for b := -1; b < len(d.Tags); b++ {
				if apart[pair{a, b}] {
					continue
				}
				is := tagOf(d, a) != tagOf(d, b)
				for class := range d.Many {
					is = is || apart[pair{comes(d, a, class), comes(d, b, class)}]
				}
				if is {
					apart[pair{a, b}] = true
					more = true
				}
			}
		}
	}
	return apart
}

// plainLeast answers the least machine, of which each group is known by the least of its states.
func plainLeast(d api.Dfa, apart map[pair]bool) api.Dfa {
	leastOf := func(state int) int {
		for other := -1; ; other++ {
			if !apart[pair{other, state}] {
				return other
			}
		}
	}
	out := api.Dfa{Many: d.Many}
	states := []int{0}
	for i := 0; i < len(states); i++ {
		out.Tags = append(out.Tags, tagOf(d, states[i]))
		for class := range d.Many {
			to := leastOf(comes(d, states[i], class))
			// The state 0 stands for its group, but if that is nowhere's.
			at := slices.Index(states, to)
			if to != -1 && at == -1 {
				at = len(states)
				states = append(states, to)
			}
			out.Next = append(out.Next, at)
		}
	}
	return out
}

// rowsOf answers all rows of at most so many classes.
func rowsOf(many, most int) [][]int {
	out := [][]int{nil}
	last := out
	for range most {
		var next [][]int
		for _, l := range last {
			for class := range many {
				next = append(next, append(slices.Clone(l), class))
			}
		}
		out = append(out, next...)
		last = next
	}
	return out
}

// from answers a machine that is another one, but begins at one of its states, or nowhere.
func from(d api.Dfa, state int) api.Dfa {
	if state == -1 {
		return secondOf(d.Many, slices.Repeat([]int{-1}, d.Many), -1)
	}
	order := make([]int, len(d.Tags))
	for i := range order {
		order[i] = i
	}
	order[0], order[state] = state, 0
	return ordered(d, order)
}

// ordered answers a machine that is another one, but has at each place the state that order tells.
func ordered(d api.Dfa, order []int) api.Dfa {
	out := api.Dfa{Many: d.Many}
	for _, state := range order {
		out.Tags = append(out.Tags, d.Tags[state])
		for class := range d.Many {
			out.Next = append(out.Next, slices.Index(order, comes(d, state, class)))
		}
	}
	return out
}

// tagsOf answers what a machine tells behind some rows, one behind the other.
func tagsOf(t testing.TB, d api.Dfa, rows [][]int) []int {
	t.Helper()
	var out []int
	for _, l := range rows {
		tags, err := dfa.Run(d, l)
		if err != api.OK {
			t.Fatalf("%s: %v: %d", shown(d), l, err)
		}
		out = append(out, tags...)
	}
	return out
}

// check holds Alike and Least of a machine, right or not, against the chapter's words, and answers its least machine; or none, if it is not right.
func check(t testing.TB, d api.Dfa) (api.Dfa, bool) {
	t.Helper()
	if !dfa.Right(d) {
		wantWrong(t, d)
		return api.Dfa{}, false
	}
	apart := plainApart(d)
	want := plainLeast(d, apart)
	got, err := Least(d)
	if err != api.OK || !same(got, want) || !dfa.Right(got) {
		t.Fatalf("%s: %d, %s; want %s", shown(d), err, shown(got), shown(want))
	}
	if many := len(d.Tags); many < 12 {
		for a := -2; a <= many; a++ {
			for b := -2; b <= a; b++ {
				// Of each pair one order is enough, here this one, there that one.
				if (a+b)%2 == 0 {
					checkAlike(t, d, apart, a, b)
				} else {
					checkAlike(t, d, apart, b, a)
				}
			}
		}
	} else {
		for a := -1; a < many; a++ {
			checkAlike(t, d, apart, a, (a*7+3)%many)
			checkAlike(t, d, apart, a, -1)
		}
	}
	return got, true
}

func checkAlike(t testing.TB, d api.Dfa, apart map[pair]bool, a, b int) {
	t.Helper()
	err := api.OK
	if min(a, b) < -1 || max(a, b) >= len(d.Tags) {
		err = api.ErrArg
	}
	want := err == api.OK && !apart[pair{a, b}]
	if is, fault := Alike(d, a, b); is != want || fault != err {
		t.Fatalf("%s: %d and %d: %v, %d; want %v, %d", shown(d), a, b, is, fault, want, err)
	}
}

// checkFollow holds what follows of a machine and its least one: no two states are alike, each is come to, and it is its own least one.
func checkFollow(t testing.TB, d, small api.Dfa) {
	t.Helper()
	if again, err := Least(small); err != api.OK || !same(again, small) || len(small.Tags) > len(d.Tags) {
		t.Fatalf("%s: %s: its least one is %s, %d", shown(d), shown(small), shown(again), err)
	}
	for p := range pairsOf(len(small.Tags)) {
		is, err := Alike(small, p.a, p.b)
		if err != api.OK || is != (p.a == p.b || p == pair{-1, 0} && !tells(small)) {
			t.Fatalf("%s: %s: %d and %d: %v, %d", shown(d), shown(small), p.a, p.b, is, err)
		}
	}
	come := map[int]bool{0: true}
	for more := true; more; {
		many := len(come)
		for i, to := range small.Next {
			if come[i/small.Many] && to != -1 {
				come[to] = true
			}
		}
		more = many != len(come)
	}
	if len(come) != len(small.Tags) {
		t.Fatalf("%s: %s: only %d states are come to", shown(d), shown(small), len(come))
	}
}

// pairsOf goes through pairs of states, and of nowhere: of few states all, of many some.
func pairsOf(many int) func(func(pair) bool) {
	return func(yield func(pair) bool) {
		for a := -1; a < many; a++ {
			for b := a; b < many; b += 1 + many/20 {
				if !yield(pair{a, b}) {
					return
				}
			}
		}
	}
}

// tells tells whether a machine has any tag.
func tells(d api.Dfa) bool {
	return slices.ContainsFunc(d.Tags, func(tag int) bool { return tag != -1 })
}

// checkRows holds that a machine and its least one have the same tags of rows.
func checkRows(t testing.TB, d, small api.Dfa, rows [][]int) []int {
	t.Helper()
	tags := tagsOf(t, d, rows)
	if got := tagsOf(t, small, rows); !slices.Equal(got, tags) {
		t.Fatalf("%s: %s: other tags of %v: %v and %v", shown(d), shown(small), rows, tags, got)
	}
	return tags
}

// textOf answers numbers as a text.
func textOf(l []int) string {
	out := ""
	for _, n := range l {
		out += strconv.Itoa(n) + " "
	}
	return out
}

// machines goes through all machines of so many states and classes, of some tags.
func machines(states, many int, tags []int) func(func(api.Dfa) bool) {
	return func(yield func(api.Dfa) bool) {
		ways := 1
		for range states * many {
			ways *= states + 1
		}
		kinds := 1
		for range states {
			kinds *= len(tags)
		}
		for i := range ways * kinds {
			d := api.Dfa{Many: many}
			for range states * many {
				d.Next = append(d.Next, i%(states+1)-1)
				i /= states + 1
			}
			for range states {
				d.Tags = append(d.Tags, tags[i%len(tags)])
				i /= len(tags)
			}
			if !yield(d) {
				return
			}
		}
	}
}

// P9.1, P9.2: short machines, whose alike states and least ones are held against what rows tell: two states are alike just if all rows tell the same from them on, and two machines have the same least one just if they tell the same.
func TestShortMachines(t *testing.T) {
	for _, k := range []struct {
		states, many int
		tags         []int
	}{
		{1, 1, []int{-1, 0, 199}}, {1, 2, []int{-1, 0, 199}}, {1, 3, []int{-1, 0, 199}},
		{2, 1, []int{-1, 0, 199}}, {2, 2, []int{-1, 0, 199}}, {2, 3, []int{-1, 4}},
		{3, 1, []int{-1, 0, 199}}, {3, 2, []int{-1, 4}}, {4, 1, []int{-1, 4}},
	} {
		// Two states that differ do so behind fewer classes than there are states, without nowhere; those of two machines, of both.
		rows := rowsOf(k.many, k.states)
		far := slices.DeleteFunc(rowsOf(k.many, 2*k.states-1), func(l []int) bool { return len(l) < 2*k.states-1 })
		least := map[string]string{}
		told := map[string]string{}
		seen := 0
		for d := range machines(k.states, k.many, k.tags) {
			// Of the most ones each third one is enough: so all numbers are there beside all others.
			if seen++; k.states*k.many == 6 && k.states == 3 && seen%3 != 0 {
				continue
			}
			small, _ := check(t, d)
			checkFollow(t, d, small)
			tags := textOf(checkRows(t, d, small, far))
			text := shown(small)
			if other, is := least[tags]; is && other != text {
				t.Fatalf("the same tags, but not the same least machine: %s, %s", other, text)
			}
			if other, is := told[text]; is && other != tags {
				t.Fatalf("the same least machine, but not the same tags: %s", text)
			}
			least[tags], told[text] = text, tags
			if len(rows) < 20 {
				checkRowsFromOn(t, d, rows)
			}
		}
	}
}

// checkRowsFromOn holds that two states are alike just if all rows tell the same from them on.
func checkRowsFromOn(t testing.TB, d api.Dfa, rows [][]int) {
	t.Helper()
	var tags [][]int
	for a := -1; a < len(d.Tags); a++ {
		tags = append(tags, tagsOf(t, from(d, a), rows))
	}
	for a := range tags {
		for b := range tags {
			if is, err := Alike(d, a-1, b-1); err != api.OK || is != slices.Equal(tags[a], tags[b]) {
				t.Fatalf("%s: %d and %d: %v, %d, but they tell %v and %v", shown(d), a-1, b-1, is, err, tags[a], tags[b])
			}
		}
	}
}

// randMachine answers a machine that is right, of which often some states are alike: what they come to is chosen among few.
func randMachine(r *rand.Rand, most int) api.Dfa {
	states := 1 + r.Intn(1+r.Intn(most))
	many := 1 + r.Intn(4)
	if r.Intn(20) == 0 {
		many = 200 + r.Intn(57)
	}
	few := 1 + r.Intn(states)
	d := api.Dfa{Many: many, Next: make([]int, states*many), Tags: make([]int, states)}
	for state := range states {
		d.Tags[state] = max(-1, r.Intn(6)-4)
		if r.Intn(30) == 0 {
			d.Tags[state] = r.Intn(201) - 1
		}
		for class := range many {
			to := r.Intn(few+1) - 1
			switch r.Intn(10) {
			case 0:
				to = r.Intn(states+1) - 1
			case 1:
				to = (state + 1) % states
			}
			d.Next[state*many+class] = to
		}
	}
	return d
}

// twice answers a machine whose states stand twice, each way to one of them going to either one.
func twice(r *rand.Rand, d api.Dfa) api.Dfa {
	many := len(d.Tags)
	out := api.Dfa{Many: d.Many, Next: slices.Repeat(d.Next, 2), Tags: slices.Repeat(d.Tags, 2)}
	for i, to := range out.Next {
		if to != -1 && r.Intn(2) == 0 {
			out.Next[i] = to + many
		}
	}
	return out
}

// otherwise answers a machine that tells the same as another one: its states stand twice, or in another order, or others are there that are not come to, or that lead to nothing.
func otherwise(r *rand.Rand, d api.Dfa) api.Dfa {
	out := api.Dfa{Many: d.Many, Next: slices.Clone(d.Next), Tags: slices.Clone(d.Tags)}
	if r.Intn(2) == 0 {
		out = twice(r, out)
	}
	many := len(out.Tags)
	for range r.Intn(4) {
		out.Tags = append(out.Tags, r.Intn(201)-1)
		for range out.Many {
			out.Next = append(out.Next, r.Intn(len(out.Tags)+1)-1)
		}
	}
	if r.Intn(2) == 0 {
		// A state without a tag that comes to itself, or nowhere, is nowhere.
		none := len(out.Tags)
		for i, to := range out.Next {
			if to == -1 && i < many*out.Many && r.Intn(2) == 0 {
				out.Next[i] = none
			}
		}
		out.Tags = append(out.Tags, -1)
		for range out.Many {
			out.Next = append(out.Next, none-r.Intn(2)*(none+1))
		}
	}
	order := r.Perm(len(out.Tags))
	zero := slices.Index(order, 0)
	order[0], order[zero] = 0, order[0]
	return ordered(out, order)
}

// randRows answers some rows, short and long ones.
func randRows(r *rand.Rand, many int) [][]int {
	rows := make([][]int, 4)
	for i := range rows {
		for range r.Intn(1 + r.Intn(80)) {
			rows[i] = append(rows[i], r.Intn(many))
		}
	}
	return rows
}

// P9.1, P9.2: machines by chance, and others that tell the same.
func TestMachinesByChance(t *testing.T) {
	r := rand.New(rand.NewSource(9))
	less, great, told := 0, 0, 0
	for range 700 {
		d := randMachine(r, 60)
		small, ok := check(t, d)
		if !ok {
			t.Fatalf("not right: %s", shown(d))
		}
		checkFollow(t, d, small)
		rows := randRows(r, d.Many)
		if tags := checkRows(t, d, small, rows); slices.Max(tags) > -1 {
			told++
		}
		if len(small.Tags) < len(d.Tags) {
			less++
		}
		if len(small.Tags) > 10 {
			great++
		}
		for range 2 {
			other := otherwise(r, d)
			got, err := Least(other)
			if err != api.OK || !same(got, small) {
				t.Fatalf("%s: %s, %d; but that tells the same as %s, whose least machine is %s", shown(other), shown(got), err, shown(d), shown(small))
			}
			checkRows(t, d, other, rows)
		}
	}
	if less < 300 || great < 60 || told < 300 {
		t.Error("hardly anything was looked at:", less, great, told)
	}
}

// P9.1: machines by chance that are often not right.
func TestWrongByChance(t *testing.T) {
	r := rand.New(rand.NewSource(91))
	right, wrong := 0, 0
	for range 3000 {
		d := randMachine(r, 6)
		switch r.Intn(6) {
		case 0:
			d.Many += r.Intn(3) - 1
		case 1:
			d.Next = d.Next[:len(d.Next)-1]
		case 2:
			d.Next = append(d.Next, -1)
		case 3:
			d.Tags = append(d.Tags, 0)
		case 4:
			d.Tags[r.Intn(len(d.Tags))] = r.Intn(210) - 5
		default:
			d.Next[r.Intn(len(d.Next))] = r.Intn(len(d.Tags)+6) - 3
		}
		if _, ok := check(t, d); ok {
			right++
		} else {
			wrong++
		}
	}
	if right < 500 || wrong < 500 {
		t.Error("hardly anything was looked at:", right, wrong)
	}
}

// P9.1, P9.2: great machines by chance, made of one that is known: each state of it stands many times.
func TestGreatByChance(t *testing.T) {
	r := rand.New(rand.NewSource(92))
	great := 0
	for range 40 {
		base := randMachine(r, 150)
		want, _ := check(t, base)
		states := len(base.Tags) + r.Intn(api.MaxDfa-len(base.Tags)+1)
		// The state i stands where the state of is stands: the first ones are those of base.
		is := make([]int, states)
		spots := make([][]int, len(base.Tags))
		for i := range is {
			is[i] = i
			if i >= len(base.Tags) {
				is[i] = r.Intn(len(base.Tags))
			}
			spots[is[i]] = append(spots[is[i]], i)
		}
		d := api.Dfa{Many: base.Many}
		for i := range is {
			d.Tags = append(d.Tags, base.Tags[is[i]])
			for class := range base.Many {
				to := comes(base, is[i], class)
				if to != -1 {
					to = spots[to][r.Intn(len(spots[to]))]
				}
				d.Next = append(d.Next, to)
			}
		}
		got, err := Least(d)
		if err != api.OK || !same(got, want) {
			t.Fatalf("%s: %s, %d; want %s", shown(d), shown(got), err, shown(want))
		}
		for range 3 {
			one, other := r.Intn(states), r.Intn(states)
			alike, _ := Alike(base, is[one], is[other])
			wantAlike(t, d, one, other, alike)
		}
		if len(want.Tags) > 10 && states > 1000 {
			great++
		}
	}
	if great < 8 {
		t.Error("hardly any great machines:", great)
	}
}

// gramOf answers the second machine of a grammar's rules, as the layers above make it, and its classes; or none, if the text is no grammar.
func gramOf(s string) (api.Nfa, api.Classes, api.Dfa, bool) {
	toks, _, _ := lex.Lex(s)
	list, _, _ := abnf.Parse(toks)
	g, _, _ := rules.Gather(list)
	var l []api.Re
	for _, rule := range g.Rules {
		if r, err := regex.Inline(g, rule.Name, 500); err == api.OK && len(l) < api.MaxNames {
			l = append(l, r)
		}
	}
	c, _ := classes.Of(l)
	n, err := nfa.Build(l, api.MaxNfa)
	if err != api.OK {
		return n, c, api.Dfa{}, false
	}
	d, err := dfa.Build(n, c, 100)
	return n, c, d, err == api.OK
}

// checkGram holds that the least machine of a grammar's rules tells behind texts' bytes what their first machine tells. It answers how many states fewer it has.
func checkGram(t testing.TB, s string, texts ...string) int {
	t.Helper()
	n, c, d, ok := gramOf(s)
	if !ok {
		return 0
	}
	small, _ := check(t, d)
	checkFollow(t, d, small)
	for _, text := range texts {
		var l []int
		for i := range len(text) {
			l = append(l, int(c.Of[text[i]]))
		}
		want, err := nfa.Run(n, text)
		tags, fault := dfa.Run(small, l)
		if err != api.OK || fault != api.OK || !slices.Equal(tags, want) {
			t.Fatalf("%q: %q: %v, %d; want %v", s, text, tags, fault, want)
		}
	}
	return len(d.Tags) - len(small.Tags)
}

// P9.2: the least machine of a grammar's rules.
func TestGrammar(t *testing.T) {
	const text = `if = %x69.66
day = ("mon" / "tues" / "wednes" / "thurs" / "fri" / "satur" / "sun") "day"
word = alpha *(alpha / digit / "-" (alpha / digit))
alpha = %x61-7A / %x41-5A
digit = %x30-39
num = 1*3digit ["." 1*digit]
hex = "0x" 2*4(digit / "a" / "b")
quoted = %x22 *(%x20-21 / %x23-5B / %x5D-7E / %x5C %x20-7E) %x22
never = 0digit`
	if less := checkGram(t, text, "", "if", "IF", "tuesday", "SUNday", "monda", "wednesdays", "iffy", "a-b.c--d", "12.5", "1234", "0xab1", "0x1", `"a\"b" "`, "1 2 ", "\"\xff", "x\x00y"); less < 4 {
		t.Error("so many states fewer:", less)
	}
}

// FuzzLeast takes texts for a grammar and what is run, and for the numbers of a machine.
func FuzzLeast(f *testing.F) {
	f.Add("a = 1*3b / %x00-7F \"ab\"\nb = *%x30-39", "1234ab", 1)
	f.Add("\x00\x01\x02\x00\x01\x02\x01\x00", "\x00\x01x", 2)
	f.Fuzz(func(t *testing.T, g, s string, many int) {
		if len(g) > 100 || len(s) > 100 {
			return
		}
		checkGram(t, g, s)
		d := api.Dfa{Many: many}
		for i := range len(g) {
			if many > 0 && i%(many+1) == 0 {
				d.Tags = append(d.Tags, int(g[i])-1)
			} else {
				d.Next = append(d.Next, int(g[i])-1)
			}
		}
		if small, ok := check(t, d); ok {
			checkFollow(t, d, small)
		}
	})
}
