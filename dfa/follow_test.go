package dfa

import (
	"math/rand"
	"slices"
	"strings"
	"testing"

	"franking/abnf"
	"franking/api"
	"franking/classes"
	"franking/derive"
	"franking/lex"
	"franking/nfa"
	"franking/regex"
	"franking/rules"
)

// The chapter's words once more, as plainly as may be, to hold the package against.

func plainRight(d api.Dfa) bool {
	if d.Many < 1 || d.Many > 256 || len(d.Tags) < 1 || len(d.Tags) > 5000 {
		return false
	}
	for _, tag := range d.Tags {
		if tag < -1 || tag > 199 {
			return false
		}
	}
	for _, state := range d.Next {
		if state < -1 || state > len(d.Tags)-1 {
			return false
		}
	}
	return len(d.Next) == d.Many*len(d.Tags)
}

// stands is where a first machine stands: of each state, whether it does.
type stands []bool

// without answers what some states come to without a byte: it goes on until there are no others.
func (at stands) without(n api.Nfa) stands {
	out := slices.Clone(at)
	for more := true; more; {
		more = false
		for place, s := range n.States {
			if out[place] && s.Kind == 2 && !(out[s.A] && out[s.B]) {
				out[s.A], out[s.B] = true, true
				more = true
			}
		}
	}
	return out
}

// by answers what some states come to by a byte.
func (at stands) by(n api.Nfa, b byte) stands {
	out := make(stands, len(at))
	for place, s := range n.States {
		if at[place] && s.Kind == 1 && s.Set[b/64]&(1<<(b%64)) != 0 {
			out[s.A] = true
		}
	}
	return out.without(n)
}

func (at stands) tag(n api.Nfa) int {
	for tag := range 200 {
		for place, is := range at {
			if is && n.States[place] == e(tag) {
				return tag
			}
		}
	}
	return -1
}

// leastOf answers the least byte of each class.
func leastOf(c api.Classes) [256]byte {
	var least [256]byte
	for b := 255; b >= 0; b-- {
		least[c.Of[b]] = byte(b)
	}
	return least
}

// plainSecond answers the second machine of a first one and classes, or none, if there are more than so many states.
func plainSecond(n api.Nfa, c api.Classes, most int) (api.Dfa, bool) {
	least := leastOf(c)
	begin := make(stands, len(n.States))
	begin[n.Start] = true
	all := []stands{begin.without(n)}
	d := api.Dfa{Many: c.Many}
	for i := 0; i < len(all); i++ {
		d.Tags = append(d.Tags, all[i].tag(n))
		for class := range c.Many {
			to := all[i].by(n, least[class])
			if !slices.Contains(to, true) {
				d.Next = append(d.Next, -1)
				continue
			}
			at := slices.IndexFunc(all, func(s stands) bool { return slices.Equal(s, to) })
			if at == -1 {
				at = len(all)
				all = append(all, to)
			}
			d.Next = append(d.Next, at)
		}
		if len(all) > most {
			return api.Dfa{}, false
		}
	}
	return d, true
}

// plainFits tells whether classes are right, and no set of a machine has one byte of a class and lacks another one.
func plainFits(n api.Nfa, c api.Classes) bool {
	if !classes.Right(c) {
		return false
	}
	least := leastOf(c)
	for _, s := range n.States {
		for b := range 256 {
			other := least[c.Of[b]]
			if s.Kind == 1 && s.Set[b/64]>>(b%64)&1 != s.Set[other/64]>>(other%64)&1 {
				return false
			}
		}
	}
	return true
}

func plainRun(d api.Dfa, l []int) []int {
	tags := []int{d.Tags[0]}
	at := 0
	for _, class := range l {
		if at != -1 {
			at = d.Next[at*d.Many+class]
		}
		if at == -1 {
			tags = append(tags, -1)
		} else {
			tags = append(tags, d.Tags[at])
		}
	}
	return tags
}

// greatest is as many states as the plain reading is asked for.
const greatest = 300

// checkBuild holds Build of a first machine and classes, right or not, against the chapter's words. It answers the second machine; or none, if there is none, or it is too great to be looked at.
func checkBuild(t testing.TB, n api.Nfa, c api.Classes) (api.Dfa, bool) {
	t.Helper()
	if !nfa.Right(n) || !plainFits(n, c) {
		wantArg(t, n, c)
		return api.Dfa{}, false
	}
	want, ok := plainSecond(n, c, greatest)
	if !ok {
		wantErr(t, n, c, greatest, api.ErrCap)
		wantErr(t, n, c, 1, api.ErrCap)
		return api.Dfa{}, false
	}
	wantBuild(t, n, c, want)
	d, err := Build(n, c, len(want.Tags))
	if err != api.OK || !plainRight(d) {
		t.Fatalf("%s: %s, %d", shownFirst(n), shown(d), err)
	}
	return d, true
}

// checkRun holds Right and Run of a machine, right or not, against the chapter's words, and answers whether it is right.
func checkRun(t testing.TB, d api.Dfa, rows ...[]int) bool {
	t.Helper()
	right := plainRight(d)
	if Right(d) != right {
		t.Fatalf("%s: right %v", shown(d), !right)
	}
	for _, l := range rows {
		tags, err := Run(d, l)
		if !right || slices.ContainsFunc(l, func(class int) bool { return class < 0 || class >= d.Many }) {
			if err != api.ErrArg || len(tags) != 0 {
				t.Fatalf("%s: %v: %v, %d", shown(d), l, tags, err)
			}
			continue
		}
		if want := plainRun(d, l); err != api.OK || !slices.Equal(tags, want) {
			t.Fatalf("%s: %v: %v, %d; want %v", shown(d), l, tags, err, want)
		}
	}
	return right
}

// rowOf answers the classes of a text's bytes.
func rowOf(c api.Classes, s string) []int {
	var l []int
	for i := range len(s) {
		l = append(l, int(c.Of[s[i]]))
	}
	return l
}

// checkFollow holds that a second machine tells behind the classes of texts' bytes what the first one tells behind the texts, and that each of its states is come to.
func checkFollow(t testing.TB, n api.Nfa, c api.Classes, d api.Dfa, texts ...string) {
	t.Helper()
	for _, s := range texts {
		want, err := nfa.Run(n, s)
		tags, fault := Run(d, rowOf(c, s))
		if err != api.OK || fault != api.OK || !slices.Equal(tags, want) {
			t.Fatalf("%s: %q: %v, %d; want %v", shownFirst(n), s, tags, fault, want)
		}
	}
	come := map[int]bool{0: true}
	for more := true; more; {
		many := len(come)
		for i, to := range d.Next {
			if come[i/d.Many] && to != -1 {
				come[to] = true
			}
		}
		more = many != len(come)
	}
	if len(come) != len(d.Tags) {
		t.Fatalf("%s: %s: only %d states are come to", shownFirst(n), shown(d), len(come))
	}
}

// textsOf answers all texts of at most so many of some bytes.
func textsOf(bytes string, most int) []string {
	out := []string{""}
	last := out
	for range most {
		var next []string
		for _, s := range last {
			for i := range len(bytes) {
				next = append(next, s+bytes[i:i+1])
			}
		}
		out = append(out, next...)
		last = next
	}
	return out
}

// above answers all trees of some kids, one or two of them.
func above(kids []api.Re) []api.Re {
	var out []api.Re
	for _, a := range kids {
		out = append(out, star(a))
		for _, b := range kids {
			out = append(out, cat(a, b), alt(a, b))
		}
	}
	return out
}

// P8.1, P8.2, P8.3: all short trees, and all pairs of the shortest ones, upon all short texts.
func TestShortTrees(t *testing.T) {
	leaves := []api.Re{empty, set("x"), set("xy")}
	low := append(slices.Clone(leaves), above(leaves)...)
	var all [][]api.Re
	for _, r := range append(slices.Clone(low), above(low)...) {
		all = append(all, []api.Re{r})
	}
	for _, a := range low {
		for _, b := range low {
			all = append(all, []api.Re{a, b})
		}
	}
	var long []string
	for _, s := range textsOf("xyz", 4) {
		if len(s) == 4 {
			long = append(long, s)
		}
	}
	for i, l := range all {
		n, c := built(t, l...)
		d, ok := checkBuild(t, n, c)
		if !ok {
			t.Fatalf("%+v: no machine", l)
		}
		checkFollow(t, n, c, d, long...)
		checkRun(t, d, rowOf(c, long[i%len(long)]), []int{i % 5, i % 4, i % 3})
	}
}

// P8.1, P8.3: all first machines of one state and of two, of what a state may be and of some that it may not, with classes that fit and that do not.
func TestShortFirsts(t *testing.T) {
	states := []api.NState{e(0), e(1), e(-1), c("", 0), s(-1, 0)}
	for _, a := range []int{0, 1, 2} {
		states = append(states, c("x", a), c("xy", a))
		for b := range 2 {
			states = append(states, s(a, b))
		}
	}
	some := []api.Classes{classesOf(), classesOf("x"), classesOf("xy"), classesOf("x", "y"), {Many: 2}}
	texts := textsOf("xyz", 3)
	some1, none := 0, 0
	for _, a := range states {
		for _, b := range states {
			for _, n := range []api.Nfa{firstOf(0, a), firstOf(0, a, b), firstOf(1, a, b)} {
				for _, c := range some {
					d, ok := checkBuild(t, n, c)
					if !ok {
						none++
						continue
					}
					checkFollow(t, n, c, d, texts...)
					some1++
				}
			}
		}
	}
	if some1 < 300 || none < 300 {
		t.Error("hardly anything was looked at:", some1, none)
	}
}

// P8.1, P8.2: all second machines of at most two states, of at most two classes, of numbers that may be and that may not.
func TestShortSeconds(t *testing.T) {
	rows := [][]int{nil, {0}, {1}, {-1}, {2}, {0, 1, 1}, {1, 0, 0}, {0, 0, 2}, {1, 1, 1, -1}}
	right := 0
	for many := -1; many <= 3; many++ {
		for _, tags := range listsOf([]int{-2, -1, 0, 199, 200}, 2) {
			for _, next := range listsOf([]int{-2, -1, 0, 1, 2}, 4) {
				// Of machines that are not right by their lengths few are looked at.
				if len(next) != many*len(tags) && next != nil && tags != nil && tags[0] != 0 {
					continue
				}
				if checkRun(t, secondOf(many, next, tags...), rows...) {
					right++
				}
			}
		}
	}
	// Of one class: of one state 3 tags and 2 places; of two 9 and 9. Of two classes: 3 and 4; 9 and 81. Of three: of one state 3 and 8, of two there are not so many numbers.
	if want := 3*2 + 9*9 + 3*4 + 9*81 + 3*8; right != want {
		t.Error("so many machines are right, but told are", want, right)
	}
}

// listsOf answers all lists of at most so many of some numbers.
func listsOf(of []int, most int) [][]int {
	out := [][]int{nil}
	last := out
	for range most {
		var next [][]int
		for _, l := range last {
			for _, i := range of {
				next = append(next, append(slices.Clone(l), i))
			}
		}
		out = append(out, next...)
		last = next
	}
	return out
}

// randSet answers a set of few bytes, or of many, among them often x or y.
func randSet(r *rand.Rand) api.Set {
	switch r.Intn(5) {
	case 0:
		return setOf("x")
	case 1:
		return setOf("y" + bytesFrom(r.Intn(256), r.Intn(256)))
	case 2:
		return api.Set{r.Uint64(), r.Uint64(), r.Uint64(), r.Uint64() | 1}
	case 3:
		return setOf("xyz"[r.Intn(3):])
	}
	return setOf(bytesFrom(r.Intn(4)*64, 255))
}

// randTree answers a right tree, at most so deep.
func randTree(r *rand.Rand, deep int) api.Re {
	kind := uint8(r.Intn(5))
	if deep == 1 {
		kind = api.ReSet
		if r.Intn(8) == 0 {
			kind = api.ReNone
		}
	}
	switch kind {
	case api.ReNone:
		return empty
	case api.ReSet:
		return api.Re{Kind: api.ReSet, Set: randSet(r)}
	case api.ReStar:
		return star(randTree(r, deep-1))
	}
	var kids []api.Re
	for range 2 + r.Intn(3) {
		kids = append(kids, randTree(r, deep-1))
	}
	return re(kind, kids...)
}

func randText(r *rand.Rand) string {
	out := make([]byte, r.Intn(12))
	for i := range out {
		out[i] = "xxxyyz\x00\xff"[r.Intn(8)]
		if r.Intn(6) == 0 {
			out[i] = byte(r.Intn(256))
		}
	}
	return string(out)
}

// P8.1, P8.2, P8.3: lists of trees, and texts, by chance.
func TestTreesByChance(t *testing.T) {
	r := rand.New(rand.NewSource(8))
	tags := map[int]int{}
	most, parts := 0, 0
	for range 1000 {
		var l []api.Re
		for range 1 + r.Intn(5) {
			l = append(l, randTree(r, 1+r.Intn(5)))
		}
		n, c := built(t, l...)
		d, ok := checkBuild(t, n, c)
		if !ok {
			continue
		}
		most, parts = max(most, len(d.Tags)), max(parts, d.Many)
		for range 10 {
			s := randText(r)
			checkFollow(t, n, c, d, s)
			row := rowOf(c, s)
			checkRun(t, d, row, append(row, d.Many-r.Intn(2)))
			got, _ := Run(d, row)
			tags[got[len(s)]]++
		}
	}
	for tag := -1; tag < 4; tag++ {
		if tags[tag] < 100 {
			t.Error("hardly ever told:", tag, tags)
		}
	}
	if most < 50 || parts < 100 {
		t.Error("hardly any great machines:", most, parts)
	}
}

// randFirst answers a machine that is right, of states that lead anywhere.
func randFirst(r *rand.Rand) api.Nfa {
	many := 1 + r.Intn(1+r.Intn(150))
	states := make([]api.NState, many)
	for i := range states {
		switch r.Intn(6) {
		case 0:
			states[i] = e(r.Intn(200))
		case 1, 2, 3:
			states[i] = api.NState{Kind: api.NfaByte, Set: randSet(r), A: r.Intn(many)}
			if r.Intn(3) > 0 {
				states[i].Set = setOf("xyz"[r.Intn(3):])
			}
		default:
			states[i] = s(r.Intn(many), r.Intn(many))
		}
	}
	return api.Nfa{Start: r.Intn(many), States: states}
}

// classesFor answers the classes of a machine's sets, and of as many more.
func classesFor(n api.Nfa, more ...api.Set) api.Classes {
	var l []api.Re
	for _, s := range n.States {
		if s.Kind == api.NfaByte {
			l = append(l, api.Re{Kind: api.ReSet, Set: s.Set})
		}
	}
	for _, s := range more {
		l = append(l, api.Re{Kind: api.ReSet, Set: s})
	}
	c, _ := classes.Of(l)
	return c
}

// P8.1, P8.3: first machines that no trees are, with ways that go round, with classes that part as much as is needed, or more, or not enough.
func TestFirstsByChance(t *testing.T) {
	r := rand.New(rand.NewSource(81))
	some, none, great, told := 0, 0, 0, 0
	for range 1500 {
		n := randFirst(r)
		c := classesFor(n)
		switch r.Intn(5) {
		case 0:
			c = classesFor(n, randSet(r), randSet(r))
		case 1:
			c.Of[r.Intn(256)] = uint8(r.Intn(c.Many + 1))
		case 2:
			c = classesFor(randFirst(r))
		}
		d, ok := checkBuild(t, n, c)
		if !ok {
			none++
			continue
		}
		some++
		if len(d.Tags) > 20 {
			great++
		}
		for range 5 {
			s := randText(r)
			checkFollow(t, n, c, d, s)
			if tags, _ := Run(d, rowOf(c, s)); tags[len(s)] != -1 {
				told++
			}
		}
	}
	if some < 500 || none < 300 || great < 50 || told < 150 {
		t.Error("hardly anything was looked at:", some, none, great, told)
	}
}

// P8.1, P8.2: second machines by chance, right and not.
func TestSecondsByChance(t *testing.T) {
	r := rand.New(rand.NewSource(82))
	right, wrong, told := 0, 0, 0
	for range 5000 {
		many, states := 1+r.Intn(256), 1+r.Intn(1+r.Intn(50))
		if r.Intn(2) == 0 {
			many = 1 + r.Intn(4)
		}
		d := api.Dfa{Many: many, Next: make([]int, many*states), Tags: make([]int, states)}
		for i := range d.Next {
			d.Next[i] = max(-1, r.Intn(states+states/10+1)-1-states/10)
		}
		for i := range d.Tags {
			d.Tags[i] = r.Intn(201) - 1
		}
		rows := make([][]int, 3)
		for i := range rows {
			for range r.Intn(30) {
				rows[i] = append(rows[i], r.Intn(many))
			}
		}
		if !checkRun(t, d, rows...) {
			t.Fatalf("not right: %s", shown(d))
		}
		for _, row := range rows {
			if tags, _ := Run(d, row); tags[len(row)] != -1 {
				told++
			}
		}
		rows = append(rows, append(slices.Clone(rows[0]), many), append([]int{-1}, rows[0]...))
		spoil(r, &d)
		if checkRun(t, d, rows...) {
			right++
		} else {
			wrong++
		}
	}
	if right < 500 || wrong < 500 || told < 1000 {
		t.Error("hardly anything was looked at:", right, wrong, told)
	}
}

// spoil changes one thing of a machine, which is often not right then.
func spoil(r *rand.Rand, d *api.Dfa) {
	switch r.Intn(6) {
	case 0:
		d.Many += r.Intn(3) - 1
	case 1:
		d.Next = d.Next[:len(d.Next)-1]
	case 2:
		d.Next = append(d.Next, -1)
	case 3:
		d.Tags = append(d.Tags, 0)
	case 4:
		d.Tags[r.Intn(len(d.Tags))] = r.Intn(210) - 5
	default:
		d.Next[r.Intn(len(d.Next))] = r.Intn(len(d.Tags)+6) - 3
	}
}

// gramOf answers the grammar of a text, or none, if it is none.
func gramOf(s string) api.Gram {
	toks, _, err := lex.Lex(s)
	if err != api.OK {
		return api.Gram{}
	}
	list, _, err := abnf.Parse(toks)
	if err != api.OK {
		return api.Gram{}
	}
	g, _, _ := rules.Gather(list)
	return g
}

// checkGram holds that the second machine of a grammar's rules tells, behind each front of a text, the first rule that derives it. It answers how many states it has.
func checkGram(t testing.TB, g api.Gram, most int, texts ...string) int {
	t.Helper()
	var l []api.Re
	var names []string
	for _, rule := range g.Rules {
		if r, err := regex.Inline(g, rule.Name, most); err == api.OK && len(l) < api.MaxNames {
			l, names = append(l, r), append(names, rule.Name)
		}
	}
	if len(l) == 0 {
		return 0
	}
	n, err := nfa.Build(l, api.MaxNfa)
	if err != api.OK {
		return 0
	}
	c, _ := classes.Of(l)
	d, ok := checkBuild(t, n, c)
	if !ok {
		return 0
	}
	checkFollow(t, n, c, d, texts...)
	for _, s := range texts {
		want := slices.Repeat([]int{-1}, len(s)+1)
		for tag, name := range names {
			ends, _ := derive.Ends(g, name, s, 0)
			for _, end := range ends {
				if want[end] == -1 {
					want[end] = tag
				}
			}
		}
		if tags, err := Run(d, rowOf(c, s)); err != api.OK || !slices.Equal(tags, want) {
			t.Fatalf("%v: %q: %v, %d; want %v", names, s, tags, err, want)
		}
	}
	return len(d.Tags)
}

// P8.3: the second machine of a grammar's rules, as the layers above ask for it, held against what the rules derive.
func TestGrammar(t *testing.T) {
	const text = `
if = %x69.66
word = alpha *(alpha / digit / "-" (alpha / digit))
alpha = %x61-7A / %x41-5A
digit = %x30-39
num = 1*3digit ["." 1*digit]
hex = "0x" 2*4(digit / "a" / "b")
quoted = %x22 *(%x20-21 / %x23-5B / %x5D-7E / %x5C %x20-7E) %x22
domain = word *("." word)
maybe = *(*digit / [" "])
never = 0digit`
	g := gramOf(strings.TrimPrefix(text, "\n"))
	texts := []string{"", "if", "IF", "iffy", "a-b.c--d", "12.5", "1234", "0xab1", "0x1", `"a\"b" "`, "mx.a.org.", "1 2 ", "\"\xff", "x\x00y", strings.Repeat("a.b", 60)}
	if many := checkGram(t, g, 1000, texts...); many < 20 {
		t.Error("so many states:", many)
	}
}

// FuzzBuild takes texts for a grammar and what is run, and for the numbers of a second machine and a row.
func FuzzBuild(f *testing.F) {
	f.Add("a = 1*3b / %x00-7F \"ab\"\nb = *%x30-39", "1234ab", 1)
	f.Add("\x00\x01\x02\x00\x01\x02\x01\x00", "\x00\x01x", 2)
	f.Fuzz(func(t *testing.T, g, s string, many int) {
		if len(g) > 200 || len(s) > 100 {
			return
		}
		checkGram(t, gramOf(g), 200, s)
		d := api.Dfa{Many: many}
		for i := range len(g) {
			if many > 0 && i%(many+1) == 0 {
				d.Tags = append(d.Tags, int(g[i])-1)
			} else {
				d.Next = append(d.Next, int(g[i])-1)
			}
		}
		var row []int
		for i := range len(s) {
			row = append(row, int(s[i])-1)
		}
		checkRun(t, d, row, nil)
	})
}
