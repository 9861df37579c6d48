package nfa

import (
	"math/rand"
	"slices"
	"strings"
	"testing"

	"franking/abnf"
	"franking/api"
	"franking/derive"
	"franking/lex"
	"franking/regex"
	"franking/rules"
)

// The chapter's words once more, as plainly as may be, to hold the package against.

func plainRight(n api.Nfa) bool {
	many := len(n.States)
	place := func(i int) bool { return 0 <= i && i < many }
	if many < 1 || many > 20000 || !place(n.Start) {
		return false
	}
	for _, s := range n.States {
		ok := false
		switch s.Kind {
		case 0:
			ok = s.Set == api.Set{} && s.A == 0 && s.B == 0 && 0 <= s.Tag && s.Tag <= 199
		case 1:
			ok = s.Set != api.Set{} && place(s.A) && s.B == 0 && s.Tag == 0
		case 2:
			ok = s.Set == api.Set{} && place(s.A) && place(s.B) && s.Tag == 0
		}
		if !ok {
			return false
		}
	}
	return true
}

// plain makes states as the chapter's table tells.
type plain struct{ states []api.NState }

func (p *plain) put(s api.NState) int {
	p.states = append(p.states, s)
	return len(p.states) - 1
}

func (p *plain) toward(r api.Re, to int) int {
	switch r.Kind {
	case api.ReSet:
		return p.put(api.NState{Kind: 1, Set: r.Set, A: to})
	case api.ReCat:
		for i := len(r.Kids) - 1; i >= 0; i-- {
			to = p.toward(r.Kids[i], to)
		}
		return to
	case api.ReAlt:
		last := len(r.Kids) - 1
		begin := p.toward(r.Kids[last], to)
		for i := last - 1; i >= 0; i-- {
			kid := p.toward(r.Kids[i], to)
			begin = p.put(s(kid, begin))
		}
		return begin
	case api.ReStar:
		at := p.put(s(0, to))
		kid := p.toward(r.Kids[0], at)
		p.states[at].A = kid
		return at
	}
	return to
}

func plainMachine(l []api.Re) api.Nfa {
	p := &plain{}
	var begins []int
	for tag, r := range l {
		end := p.put(e(tag))
		begins = append(begins, p.toward(r, end))
	}
	begin := begins[len(l)-1]
	for i := len(l) - 2; i >= 0; i-- {
		begin = p.put(s(begins[i], begin))
	}
	return api.Nfa{Start: begin, States: p.states}
}

// stands is some states of a machine.
type stands map[int]bool

// without answers what some states come to without a byte: it goes on until there are no others.
func (at stands) without(n api.Nfa) stands {
	out := stands{}
	for place := range at {
		out[place] = true
	}
	for many := -1; many != len(out); {
		many = len(out)
		for place, s := range n.States {
			if out[place] && s.Kind == 2 {
				out[s.A], out[s.B] = true, true
			}
		}
	}
	return out
}

// by answers what some states come to by a byte.
func (at stands) by(n api.Nfa, b byte) stands {
	out := stands{}
	for place := range at {
		if s := n.States[place]; s.Kind == 1 && s.Set[b/64]&(1<<(b%64)) != 0 {
			out[s.A] = true
		}
	}
	return out.without(n)
}

func (at stands) tag(n api.Nfa) int {
	for tag := range 200 {
		for place := range at {
			if n.States[place] == e(tag) {
				return tag
			}
		}
	}
	return -1
}

func plainRun(n api.Nfa, s string) []int {
	at := stands{n.Start: true}.without(n)
	tags := []int{at.tag(n)}
	for i := range len(s) {
		at = at.by(n, s[i])
		tags = append(tags, at.tag(n))
	}
	return tags
}

// plainEnds answers where texts end that a tree has, from any of some places of a text on (chapter 4's words).
func plainEnds(r api.Re, s string, from stands) stands {
	out := stands{}
	switch r.Kind {
	case api.ReNone:
		return from
	case api.ReSet:
		for at := range from {
			if at < len(s) && r.Set[s[at]/64]&(1<<(s[at]%64)) != 0 {
				out[at+1] = true
			}
		}
	case api.ReCat:
		out = from
		for _, kid := range r.Kids {
			out = plainEnds(kid, s, out)
		}
	case api.ReAlt:
		for _, kid := range r.Kids {
			for at := range plainEnds(kid, s, from) {
				out[at] = true
			}
		}
	case api.ReStar:
		for at := range from {
			out[at] = true
		}
		for many := -1; many != len(out); {
			many = len(out)
			for at := range plainEnds(r.Kids[0], s, out) {
				out[at] = true
			}
		}
	}
	return out
}

// plainTags answers, of each front of a text, the place of the first tree that has it; or -1.
func plainTags(l []api.Re, s string) []int {
	tags := slices.Repeat([]int{-1}, len(s)+1)
	for place, r := range l {
		for end := range plainEnds(r, s, stands{0: true}) {
			if tags[end] == -1 {
				tags[end] = place
			}
		}
	}
	return tags
}

// plainMany answers how many states there are: one for each ReSet, each ReStar, each kid of a ReAlt but one, each tree, and each tree but one.
func plainMany(l []api.Re) int {
	var nodes func(r api.Re) int
	nodes = func(r api.Re) int {
		many := 0
		switch r.Kind {
		case api.ReSet, api.ReStar:
			many = 1
		case api.ReAlt:
			many = len(r.Kids) - 1
		}
		for _, kid := range r.Kids {
			many += nodes(kid)
		}
		return many
	}
	many := len(l) + len(l) - 1
	for _, r := range l {
		many += nodes(r)
	}
	return many
}

// checkBuild holds Build of some right trees, of not too many states, against the chapter's words.
func checkBuild(t testing.TB, l []api.Re) api.Nfa {
	t.Helper()
	want := plainMachine(l)
	if len(want.States) != plainMany(l) {
		t.Fatalf("%+v: %d states, %d", l, len(want.States), plainMany(l))
	}
	n, err := Build(l, len(want.States))
	if err != api.OK || n.Start != want.Start || !slices.Equal(n.States, want.States) {
		t.Fatalf("%+v: %s, %d; want %s", l, shown(n), err, shown(want))
	}
	if more, err := Build(l, api.MaxNfa); err != api.OK || more.Start != n.Start || !slices.Equal(more.States, n.States) {
		t.Fatalf("%+v: most %d: %s, %d; want %s", l, api.MaxNfa, shown(more), err, shown(n))
	}
	if !Right(n) || !plainRight(n) {
		t.Fatalf("%+v: not right: %s", l, shown(n))
	}
	if many := len(n.States); many > 1 {
		if less, err := Build(l, many-1); err != api.ErrCap || less.Start != 0 || len(less.States) != 0 {
			t.Fatalf("%+v: most %d: %s, %d", l, many-1, shown(less), err)
		}
	}
	return n
}

// checkRun holds Run of a machine, right or not, against the chapter's words, and answers whether it is right.
func checkRun(t testing.TB, n api.Nfa, texts ...string) bool {
	t.Helper()
	right := plainRight(n)
	if Right(n) != right {
		t.Fatalf("%s: right %v", shown(n), !right)
	}
	for _, s := range texts {
		tags, err := Run(n, s)
		if !right {
			if err != api.ErrArg || len(tags) != 0 {
				t.Fatalf("%s: %q: %v, %d", shown(n), s, tags, err)
			}
			continue
		}
		if want := plainRun(n, s); err != api.OK || !slices.Equal(tags, want) {
			t.Fatalf("%s: %q: %v, %d; want %v", shown(n), s, tags, err, want)
		}
	}
	return right
}

// checkFollow holds that behind each front of a text the tag is the first tree's that has it, and that Run of a front is the front of the Run.
func checkFollow(t testing.TB, l []api.Re, n api.Nfa, s string) {
	t.Helper()
	want := plainTags(l, s)
	for many := range len(s) + 1 {
		if tags, err := Run(n, s[:many]); err != api.OK || !slices.Equal(tags, want[:many+1]) {
			t.Fatalf("%+v: %q: %v, %d; want %v", l, s[:many], tags, err, want[:many+1])
		}
	}
}

// textsOf answers all texts of at most so many of some bytes.
func textsOf(bytes string, most int) []string {
	out := []string{""}
	last := out
	for range most {
		var next []string
		for _, s := range last {
			for i := range len(bytes) {
				next = append(next, s+bytes[i:i+1])
			}
		}
		out = append(out, next...)
		last = next
	}
	return out
}

// above answers all trees of some kids, one or two of them.
func above(kids []api.Re) []api.Re {
	var out []api.Re
	for _, a := range kids {
		out = append(out, star(a))
		for _, b := range kids {
			out = append(out, cat(a, b), alt(a, b))
		}
	}
	return out
}

// P7.1, P7.2, P7.3: all short trees, and all pairs of the shortest ones, upon all short texts.
func TestShortTrees(t *testing.T) {
	leaves := []api.Re{empty, set("x"), set("xy")}
	low := append(slices.Clone(leaves), above(leaves)...)
	var all [][]api.Re
	for _, r := range append(slices.Clone(low), above(low)...) {
		all = append(all, []api.Re{r})
	}
	for _, a := range low {
		for _, b := range low {
			all = append(all, []api.Re{a, b})
		}
	}
	texts := textsOf("xyz", 3)
	long := slices.DeleteFunc(slices.Clone(texts), func(s string) bool { return len(s) < 3 })
	for i, l := range all {
		n := checkBuild(t, l)
		checkRun(t, n, long[i%len(long)], texts[i%len(texts)])
		for _, s := range long {
			checkFollow(t, l, n, s)
		}
	}
}

// P7.1, P7.2: all machines of one state and of two, of what a state may be and of some that it may not.
func TestShortMachines(t *testing.T) {
	var states []api.NState
	for _, kind := range []uint8{0, 1, 2, 3} {
		for _, in := range []string{"", "x"} {
			for _, a := range []int{-1, 0, 1, 2} {
				for _, b := range []int{-1, 0, 1, 2} {
					for _, tag := range []int{-1, 0, 199, 200} {
						states = append(states, api.NState{Kind: kind, Set: setOf(in), A: a, B: b, Tag: tag})
					}
				}
			}
		}
	}
	right := 0
	for _, a := range states {
		for start := -1; start <= 1; start++ {
			if checkRun(t, machineOf(start, a), "xx", "yx") {
				right++
			}
		}
		for _, b := range states {
			for start := -1; start <= 2; start++ {
				if n := machineOf(start, a, b); Right(n) {
					checkRun(t, n, "xxx", "xyx")
					right++
				} else if plainRight(n) {
					t.Fatalf("%s is right", shown(n))
				}
			}
		}
	}
	// Of one state two ends, one byte, one split; of two, either one being the start, two ends, two bytes and four splits each.
	if want := 4 + 2*8*8; right != want {
		t.Error("so many machines are right, but told are", want, right)
	}
}

// randSet answers a set of few bytes, or of many, among them often x or y.
func randSet(r *rand.Rand) api.Set {
	switch r.Intn(4) {
	case 0:
		return setOf("x")
	case 1:
		return setOf("y" + bytesFrom(r.Intn(256), r.Intn(256)))
	case 2:
		return api.Set{r.Uint64(), r.Uint64(), r.Uint64(), r.Uint64() | 1}
	}
	return setOf(bytesFrom(r.Intn(4)*64, 255))
}

// randTree answers a right tree, at most so deep.
func randTree(r *rand.Rand, deep int) api.Re {
	kind := uint8(r.Intn(5))
	if deep == 1 {
		kind = api.ReSet
		if r.Intn(8) == 0 {
			kind = api.ReNone
		}
	}
	switch kind {
	case api.ReNone:
		return empty
	case api.ReSet:
		return api.Re{Kind: api.ReSet, Set: randSet(r)}
	case api.ReStar:
		return star(randTree(r, deep-1))
	}
	var kids []api.Re
	for range 2 + r.Intn(3) {
		kids = append(kids, randTree(r, deep-1))
	}
	return re(kind, kids...)
}

func randText(r *rand.Rand) string {
	out := make([]byte, r.Intn(12))
	for i := range out {
		out[i] = "xxxyyz\x00\xff"[r.Intn(8)]
		if r.Intn(6) == 0 {
			out[i] = byte(r.Intn(256))
		}
	}
	return string(out)
}

// P7.1, P7.2, P7.3: lists of trees, and texts, by chance.
func TestTreesByChance(t *testing.T) {
	r := rand.New(rand.NewSource(7))
	tags := map[int]int{}
	most := 0
	for range 3000 {
		var l []api.Re
		for range 1 + r.Intn(5) {
			l = append(l, randTree(r, 1+r.Intn(5)))
		}
		n := checkBuild(t, l)
		most = max(most, len(n.States))
		for range 10 {
			s := randText(r)
			checkRun(t, n, s)
			checkFollow(t, l, n, s)
			got, _ := Run(n, s)
			tags[got[len(s)]]++
		}
	}
	for tag := -1; tag < 4; tag++ {
		if tags[tag] < 100 {
			t.Error("hardly ever told:", tag, tags)
		}
	}
	if most < 100 {
		t.Error("hardly any great machines:", most)
	}
}

// randMachine answers a machine that is right, of states that lead anywhere.
func randMachine(r *rand.Rand) api.Nfa {
	many := 1 + r.Intn(1+r.Intn(150))
	states := make([]api.NState, many)
	for i := range states {
		switch r.Intn(5) {
		case 0:
			states[i] = e(r.Intn(200))
		case 1, 2:
			states[i] = api.NState{Kind: api.NfaByte, Set: randSet(r), A: r.Intn(many)}
		default:
			states[i] = s(r.Intn(many), r.Intn(many))
		}
	}
	return api.Nfa{Start: r.Intn(many), States: states}
}

// spoil changes one thing of a machine, which is mostly not right then.
func spoil(r *rand.Rand, n *api.Nfa) {
	s := &n.States[r.Intn(len(n.States))]
	other := r.Intn(len(n.States)+3) - 1
	switch r.Intn(6) {
	case 0:
		n.Start = other
	case 1:
		s.A = other
	case 2:
		s.B = other
	case 3:
		s.Tag = r.Intn(203) - 1
	case 4:
		s.Set[r.Intn(4)] ^= 1 << r.Intn(64)
	default:
		s.Kind = uint8(r.Intn(5))
	}
}

// P7.1, P7.2: machines that no trees are, with ways that go round, right and not.
func TestMachinesByChance(t *testing.T) {
	r := rand.New(rand.NewSource(72))
	right, wrong, told := 0, 0, 0
	for range 5000 {
		n := randMachine(r)
		texts := []string{randText(r), randText(r), randText(r)}
		if !checkRun(t, n, texts...) {
			t.Fatalf("not right: %s", shown(n))
		}
		for _, s := range texts {
			if tags, _ := Run(n, s); tags[len(s)] != -1 {
				told++
			}
		}
		for range 1 + r.Intn(2) {
			spoil(r, &n)
		}
		if checkRun(t, n, texts...) {
			right++
		} else {
			wrong++
		}
	}
	if right < 100 || wrong < 100 || told < 1000 {
		t.Error("hardly anything was looked at:", right, wrong, told)
	}
}

// gramOf answers the grammar of a text, or none, if it is none.
func gramOf(s string) api.Gram {
	toks, _, err := lex.Lex(s)
	if err != api.OK {
		return api.Gram{}
	}
	list, _, err := abnf.Parse(toks)
	if err != api.OK {
		return api.Gram{}
	}
	g, _, _ := rules.Gather(list)
	return g
}

// checkGram holds that the machine of a grammar's rules tells, behind each front of a text, the first rule that derives it. It answers how many rules that are.
func checkGram(t testing.TB, g api.Gram, most int, texts ...string) int {
	t.Helper()
	var l []api.Re
	var names []string
	for _, rule := range g.Rules {
		if r, err := regex.Inline(g, rule.Name, most); err == api.OK && len(l) < api.MaxNames {
			l, names = append(l, r), append(names, rule.Name)
		}
	}
	if len(l) == 0 {
		return 0
	}
	n, err := Build(l, api.MaxNfa)
	if err != api.OK {
		return 0
	}
	for _, s := range texts {
		tags, err := Run(n, s)
		if err != api.OK || len(tags) != len(s)+1 {
			t.Fatalf("%v: %q: %v, %d", names, s, tags, err)
		}
		want := slices.Repeat([]int{-1}, len(s)+1)
		for tag, name := range names {
			ends, _ := derive.Ends(g, name, s, 0)
			for _, end := range ends {
				if want[end] == -1 {
					want[end] = tag
				}
			}
		}
		if !slices.Equal(tags, want) {
			t.Fatalf("%v: %q: %v; want %v", names, s, tags, want)
		}
	}
	return len(l)
}

// P7.3: the machine of a grammar's rules, as the layers above ask for it, held against what the rules derive.
func TestGrammar(t *testing.T) {
	const text = `
if = %x69.66
word = alpha *(alpha / digit / "-" (alpha / digit))
alpha = %x61-7A / %x41-5A
digit = %x30-39
num = 1*3digit ["." 1*digit]
hex = "0x" 2*4(digit / "a" / "b")
quoted = %x22 *(%x20-21 / %x23-5B / %x5D-7E / %x5C %x20-7E) %x22
domain = word *("." word)
maybe = *(*digit / [" "])
never = 0digit`
	g := gramOf(strings.TrimPrefix(text, "\n"))
	texts := []string{"", "if", "IF", "iffy", "a-b.c--d", "12.5", "1234", "0xab1", "0x1", `"a\"b" "`, "mx.a.org.", "1 2 ", "\"\xff", "x\x00y", strings.Repeat("a.b", 60)}
	if many := checkGram(t, g, 1000, texts...); many != 10 {
		t.Error("so many rules:", many)
	}
}

// FuzzRun takes texts for a grammar and what is run, and for a machine's states.
func FuzzRun(f *testing.F) {
	f.Add("a = 1*3b / %x00-7F \"ab\"\nb = *%x30-39", "1234ab", 1)
	f.Add("\x00\x01\x02\x00\x01\x02\x01\x00", "\x00\x01x", 0)
	f.Fuzz(func(t *testing.T, g, s string, start int) {
		if len(g) > 300 || len(s) > 100 {
			return
		}
		checkGram(t, gramOf(g), 500, s)
		n := api.Nfa{Start: start}
		for i := 0; i+4 <= len(g); i += 4 {
			state := api.NState{Kind: g[i] % 4, A: int(g[i+1]), B: int(g[i+2]), Tag: int(g[i+3])}
			if state.Kind == api.NfaByte {
				state.Set = setOf(g[i+2 : i+4])
				state.B, state.Tag = 0, 0
			}
			n.States = append(n.States, state)
		}
		checkRun(t, n, s)
	})
}
