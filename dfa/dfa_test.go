package dfa

import (
	"math"
	"reflect"
	"slices"
	"strconv"
	"strings"
	"testing"

	"franking/api"
	"franking/classes"
	"franking/nfa"
)

// Regular trees as the chapter of layer 4 writes them. re answers one of some kids, set one of the bytes that are told.

func re(kind uint8, kids ...api.Re) api.Re { return api.Re{Kind: kind, Kids: kids} }

func cat(kids ...api.Re) api.Re { return re(api.ReCat, kids...) }

func alt(kids ...api.Re) api.Re { return re(api.ReAlt, kids...) }

func star(kid api.Re) api.Re { return re(api.ReStar, kid) }

func set(in string) api.Re { return api.Re{Kind: api.ReSet, Set: setOf(in)} }

// empty is the regular tree of nothing.
var empty = api.Re{}

// setOf answers the set of the bytes that are told.
func setOf(in string) api.Set {
	var s api.Set
	for i := range len(in) {
		s[in[i]/64] |= 1 << (in[i] % 64)
	}
	return s
}

// bytesFrom answers all bytes from one to another one.
func bytesFrom(lo, hi int) string {
	var out []byte
	for b := lo; b <= hi; b++ {
		out = append(out, byte(b))
	}
	return string(out)
}

// all is the set of all bytes.
var all = set(bytesFrom(0, 255))

// The states of a first machine as the chapter of layer 7 writes them: NfaEnd, NfaByte, NfaSplit.

func e(tag int) api.NState { return api.NState{Kind: 0, Tag: tag} }

func c(in string, a int) api.NState { return api.NState{Kind: 1, Set: setOf(in), A: a} }

func s(a, b int) api.NState { return api.NState{Kind: 2, A: a, B: b} }

func firstOf(start int, states ...api.NState) api.Nfa {
	return api.Nfa{Start: start, States: states}
}

// classesOf answers the classes of the sets of some bytes.
func classesOf(sets ...string) api.Classes {
	var l []api.Re
	for _, in := range sets {
		l = append(l, set(in))
	}
	c, _ := classes.Of(l)
	return c
}

// alone answers the classes of which each byte is one.
func alone() api.Classes {
	c := api.Classes{Many: 256}
	for b := range 256 {
		c.Of[b] = uint8(b)
	}
	return c
}

// secondOf answers a machine of so many classes, of what its states come to, and of their tags.
func secondOf(many int, next []int, tags ...int) api.Dfa {
	return api.Dfa{Many: many, Next: next, Tags: tags}
}

// shown answers a second machine as a text.
func shown(d api.Dfa) string {
	out := "many " + strconv.Itoa(d.Many)
	for i, l := range [][]int{d.Next, d.Tags} {
		out += []string{", next", ", tags"}[i]
		for i, n := range l {
			if i > 100 {
				out += " and so on, " + strconv.Itoa(len(l)) + " in all"
				break
			}
			out += " " + strconv.Itoa(n)
		}
	}
	return out
}

// shownFirst answers a first machine as a text.
func shownFirst(n api.Nfa) string {
	out := "start " + strconv.Itoa(n.Start)
	for place, s := range n.States {
		if place > 30 {
			return out + ", and so on to " + strconv.Itoa(len(n.States))
		}
		var in []byte
		for b := range 256 {
			if s.Set[b/64]>>(b%64)&1 == 1 {
				in = append(in, byte(b))
			}
		}
		out += ", " + strconv.Itoa(place) + ": "
		out += strings.Join([]string{strconv.Itoa(int(s.Kind)), strconv.Quote(string(in)), strconv.Itoa(s.A), strconv.Itoa(s.B), strconv.Itoa(s.Tag)}, " ")
	}
	return out
}

func same(a, b api.Dfa) bool {
	return a.Many == b.Many && slices.Equal(a.Next, b.Next) && slices.Equal(a.Tags, b.Tags)
}

func isNothing(d api.Dfa) bool { return same(d, api.Dfa{}) }

// wantBuild holds that a first machine, with some classes, is that second one: with as many states as it has, one more, and the most; and that one less is too few.
func wantBuild(t testing.TB, n api.Nfa, c api.Classes, want api.Dfa) {
	t.Helper()
	many := len(want.Tags)
	for _, most := range []int{many, min(many+1, api.MaxDfa), api.MaxDfa} {
		got, err := Build(n, c, most)
		if err != api.OK || !same(got, want) {
			t.Errorf("%s, most %d: %d, %s; want %s", shownFirst(n), most, err, shown(got), shown(want))
		}
		if !Right(got) {
			t.Errorf("%s, most %d: a machine that is not right: %s", shownFirst(n), most, shown(got))
		}
	}
	if many > 1 {
		wantErr(t, n, c, many-1, api.ErrCap)
		wantErr(t, n, c, 1, api.ErrCap)
	}
	for _, most := range []int{math.MinInt, -1, 0, api.MaxDfa + 1, 1 << 32, math.MaxInt} {
		wantErr(t, n, c, most, api.ErrArg)
	}
}

func wantErr(t testing.TB, n api.Nfa, c api.Classes, most int, want api.Errno) {
	t.Helper()
	if got, err := Build(n, c, most); err != want || !isNothing(got) {
		t.Errorf("%s, %d classes, most %d: %d, %s; want %d, and nothing", shownFirst(n), c.Many, most, err, shown(got), want)
	}
}

// wantArg holds that a machine, or classes, are not right, or do not fit, whatever the cap.
func wantArg(t testing.TB, n api.Nfa, c api.Classes) {
	t.Helper()
	for _, most := range []int{math.MinInt, -1, 0, 1, 2, 100, api.MaxDfa, api.MaxDfa + 1, math.MaxInt} {
		wantErr(t, n, c, most, api.ErrArg)
	}
}

func wantRun(t testing.TB, d api.Dfa, l []int, want ...int) {
	t.Helper()
	got, err := Run(d, l)
	if err != api.OK || !slices.Equal(got, want) {
		t.Errorf("%s, %v: %v, %d; want %v", shown(d), l, got, err, want)
	}
}

func wantNoRun(t testing.TB, d api.Dfa, l ...int) {
	t.Helper()
	if got, err := Run(d, l); err != api.ErrArg || len(got) != 0 {
		t.Errorf("%s, %v: %v, %d; want ErrArg, and nothing", shown(d), l, got, err)
	}
}

func wantRight(t testing.TB, d api.Dfa) {
	t.Helper()
	if !Right(d) {
		t.Errorf("%s is not right", shown(d))
		return
	}
	wantRun(t, d, nil, d.Tags[0])
}

func wantWrong(t testing.TB, d api.Dfa) {
	t.Helper()
	if Right(d) {
		t.Errorf("%s is right", shown(d))
	}
	wantNoRun(t, d)
	wantNoRun(t, d, 0)
	wantNoRun(t, d, 0, 0, 0)
	wantNoRun(t, d, -1)
}

// built answers the first machine, and the classes, of some trees.
func built(t testing.TB, l ...api.Re) (api.Nfa, api.Classes) {
	t.Helper()
	n, err := nfa.Build(l, api.MaxNfa)
	c, fault := classes.Of(l)
	if err != api.OK || fault != api.OK {
		t.Fatal(err, fault)
	}
	return n, c
}

// P8.1, P8.2: the chapter's example.
func TestExample(t *testing.T) {
	n, c := built(t, set("b"), star(set("a")))
	want := secondOf(3, []int{-1, 1, 2, -1, 1, -1, -1, -1, -1}, 1, 1, 0)
	wantBuild(t, n, c, want)
	wantErr(t, n, c, 2, api.ErrCap)
	d, _ := Build(n, c, 3)
	wantRun(t, d, []int{1, 1}, 1, 1, 1)
	wantRun(t, d, []int{2, 1}, 1, 0, -1)
	wantNoRun(t, d, 3)
}

// P8.1: each kind of tree.
func TestKinds(t *testing.T) {
	x, y := set("x"), set("y")
	for _, k := range []struct {
		r    api.Re
		many int
		next []int
		tags []int
	}{
		{empty, 1, []int{-1}, []int{0}},
		{all, 1, []int{1, -1}, []int{-1, 0}},
		{x, 2, []int{-1, 1, -1, -1}, []int{-1, 0}},
		{set("\x00"), 2, []int{1, -1, -1, -1}, []int{-1, 0}},
		{cat(x, y), 3, []int{-1, 1, -1, -1, -1, 2, -1, -1, -1}, []int{-1, -1, 0}},
		{cat(x, x), 2, []int{-1, 1, -1, 2, -1, -1}, []int{-1, -1, 0}},
		{alt(x, y), 3, []int{-1, 1, 1, -1, -1, -1}, []int{-1, 0}},
		{alt(x, cat(x, y)), 3, []int{-1, 1, -1, -1, -1, 2, -1, -1, -1}, []int{-1, 0, 0}},
		{alt(empty, x), 2, []int{-1, 1, -1, -1}, []int{0, 0}},
		{star(empty), 1, []int{-1}, []int{0}},
		{star(x), 2, []int{-1, 0}, []int{0}},
		{star(all), 1, []int{0}, []int{0}},
		{star(cat(x, y)), 3, []int{-1, 1, -1, -1, -1, 0}, []int{0, -1}},
		{star(alt(x, y)), 3, []int{-1, 0, 0}, []int{0}},
		{alt(star(x), y), 3, []int{-1, 1, 2, -1, 1, -1, -1, -1, -1}, []int{0, 0, 0}},
		{cat(x, star(y)), 3, []int{-1, 1, -1, -1, -1, 1}, []int{-1, 0}},
		{cat(star(x), x), 2, []int{-1, 1, -1, 1}, []int{-1, 0}},
		{cat(star(all), x), 2, []int{0, 1, 0, 1}, []int{-1, 0}},
	} {
		n, c := built(t, k.r)
		wantBuild(t, n, c, secondOf(k.many, k.next, k.tags...))
	}
}

// P8.1: states are numbered as they are met: from the state 0 on, state by state, class by class, whatever places they are.
func TestNumbers(t *testing.T) {
	for _, k := range []struct {
		n    api.Nfa
		c    api.Classes
		want api.Dfa
	}{
		// Classes: 0 all others, 1 a, 2 b, 3 c. The later class leads to the earlier place, and the other way round.
		{firstOf(0, s(5, 4), e(1), e(2), e(3), c("c", 1), s(6, 7), c("b", 2), c("a", 3)), classesOf("a", "b", "c"), secondOf(4, []int{-1, 1, 2, 3, -1, -1, -1, -1, -1, -1, -1, -1, -1, -1, -1, -1}, -1, 3, 2, 1)},
		{firstOf(0, s(5, 4), e(1), e(2), e(3), c("a", 1), s(6, 7), c("b", 2), c("c", 3)), classesOf("a", "b", "c"), secondOf(4, []int{-1, 1, 2, 3, -1, -1, -1, -1, -1, -1, -1, -1, -1, -1, -1, -1}, -1, 1, 2, 3)},
		// Classes: 0 is that of the byte 0, even if that is the only one that leads on.
		{firstOf(0, c("\x00", 1), e(4)), classesOf("\x00"), secondOf(2, []int{1, -1, -1, -1}, -1, 4)},
		// The states that the state 0 comes to are all ahead of those that these come to.
		{firstOf(0, s(1, 2), c("a", 3), c("b", 4), c("a", 5), c("a", 6), e(7), e(8)), classesOf("a", "b"), secondOf(3, []int{-1, 1, 2, -1, 3, -1, -1, 4, -1, -1, -1, -1, -1, -1, -1}, -1, -1, -1, 7, 8)},
		// Back to the state 0, and round.
		{firstOf(2, c("a", 1), c("b", 2), c("a", 0)), classesOf("a", "b"), secondOf(3, []int{-1, 1, -1, -1, 2, -1, -1, -1, 0}, -1, -1, -1)},
		// To itself.
		{firstOf(0, c("a", 0)), classesOf("a"), secondOf(2, []int{-1, 0}, -1)},
	} {
		wantBuild(t, k.n, k.c, k.want)
	}
}

// P8.1: where the first machine stands is all states, also those that are passed without a byte: places are the same only if they have the same ones, and by whichever way they are come to.
func TestPlaces(t *testing.T) {
	x := classesOf("x")
	// At first it stands at the split, too.
	wantBuild(t, firstOf(1, c("x", 0), s(0, 0)), x, secondOf(2, []int{-1, 1, -1, 1}, -1, -1))
	wantBuild(t, firstOf(1, c("x", 1), s(0, 0)), x, secondOf(2, []int{-1, 0}, -1))
	wantBuild(t, firstOf(0, s(1, 3), c("x", 2), s(3, 3), c("x", 3)), x, secondOf(2, []int{-1, 1, -1, 2, -1, 2}, -1, -1, -1))
	// By two ways to the same one.
	wantBuild(t, firstOf(2, c("x", 3), c("y", 4), s(0, 1), s(5, 4), s(3, 5), e(6)), classesOf("x", "y"), secondOf(3, []int{-1, 1, 1, -1, -1, -1}, -1, 6))
	// Splits that go round lead to places from which nothing goes on, which are places all the same.
	wantBuild(t, firstOf(0, s(0, 0)), classesOf(), secondOf(1, []int{-1}, -1))
	wantBuild(t, firstOf(0, c("x", 1), s(1, 2), s(1, 2)), x, secondOf(2, []int{-1, 1, -1, -1}, -1, -1))
	// Many states, of which some at the edges of marks' words differ alone.
	for _, edge := range []int{1, 7, 8, 63, 64, 65, 127, 128, 199} {
		states := make([]api.NState, 203)
		for i := range states {
			states[i] = e(i % 200)
		}
		states[0] = s(200, 201)
		states[200], states[201], states[202] = c("x", edge), c("y", 202), s(edge, edge)
		wantBuild(t, firstOf(0, states...), classesOf("x", "y"), secondOf(3, []int{-1, 1, 2, -1, -1, -1, -1, -1, -1}, -1, edge, edge))
		states[201] = c("y", edge)
		wantBuild(t, firstOf(0, states...), classesOf("x", "y"), secondOf(3, []int{-1, 1, 1, -1, -1, -1}, -1, edge))
	}
}

// P8.1: of several ends the least tag, wherever it stands.
func TestTags(t *testing.T) {
	for _, k := range []struct {
		n   api.Nfa
		tag int
	}{
		{firstOf(0, e(0)), 0}, {firstOf(0, e(199)), 199}, {firstOf(0, s(1, 2), e(4), e(2)), 2}, {firstOf(0, s(1, 2), e(2), e(4)), 2},
		{firstOf(0, s(1, 2), e(0), e(199)), 0}, {firstOf(0, s(1, 2), e(199), e(0)), 0}, {firstOf(0, s(1, 2), e(3), s(3, 4), e(1), e(2)), 1},
		// A state that is not come to tells nothing.
		{firstOf(1, e(0), e(9)), 9}, {firstOf(1, e(0), s(1, 1)), -1},
	} {
		wantBuild(t, k.n, classesOf(), secondOf(1, []int{-1}, k.tag))
	}
	l := make([]api.Re, api.MaxNames)
	for i := range l {
		l[i] = cat(set("x"), set(bytesFrom(i, 255)))
	}
	n, c := built(t, l...)
	// Behind x and a byte: the first tree has that, whatever byte it is.
	wantRunOf(t, n, c, "x\x00", -1, -1, 0)
	wantRunOf(t, n, c, "x\xff", -1, -1, 0)
	slices.Reverse(l)
	n, c = built(t, l...)
	for _, b := range []int{0, 1, 63, 64, 65, 128, 198, 199, 200, 255} {
		wantRunOf(t, n, c, "x"+bytesFrom(b, b), -1, -1, 199-min(b, 199))
	}
}

// wantRunOf holds what a second machine tells behind the classes of a text's bytes.
func wantRunOf(t testing.TB, n api.Nfa, c api.Classes, s string, want ...int) {
	t.Helper()
	d, err := Build(n, c, api.MaxDfa)
	if err != api.OK {
		t.Fatal(shownFirst(n), err)
	}
	var l []int
	for i := range len(s) {
		l = append(l, int(c.Of[s[i]]))
	}
	wantRun(t, d, l, want...)
}

// P8.1: classes that part more than the sets do, up to one for each byte: there is a number for each of them.
func TestFinerClasses(t *testing.T) {
	n := firstOf(0, c("b", 1), e(5))
	wantBuild(t, n, classesOf("b"), secondOf(2, []int{-1, 1, -1, -1}, -1, 5))
	wantBuild(t, n, classesOf("b", "a"), secondOf(3, []int{-1, -1, 1, -1, -1, -1}, -1, 5))
	wantBuild(t, n, classesOf("b", "abc"), secondOf(3, []int{-1, -1, 1, -1, -1, -1}, -1, 5))
	next := slices.Repeat([]int{-1}, 512)
	next['b'] = 1
	wantBuild(t, n, alone(), secondOf(256, next, -1, 5))
	// Two classes by which it comes to the same.
	wantBuild(t, firstOf(0, c("ab", 1), e(5)), classesOf("a", "b"), secondOf(3, []int{-1, 1, 1, -1, -1, -1}, -1, 5))
	wantBuild(t, firstOf(0, e(5)), alone(), secondOf(256, slices.Repeat([]int{-1}, 256), 5))
	wantBuild(t, firstOf(0, c(bytesFrom(0, 255), 0)), alone(), secondOf(256, make([]int, 256), -1))
	wantBuild(t, firstOf(0, c(bytesFrom(0, 255), 0)), classesOf(), secondOf(1, []int{0}, -1))
	// Each class leads on by its own bytes alone.
	var states []api.NState
	for b := range 256 {
		states = append(states, c(bytesFrom(b, b), 512+b%200), s(2*b, 2*b+3))
	}
	states[511] = s(510, 510)
	for tag := range 200 {
		states = append(states, e(tag))
	}
	for tag := range 56 {
		states = append(states, e(tag))
	}
	next = slices.Repeat([]int{-1}, 257*256)
	tags := []int{-1}
	for b := range 256 {
		next[b] = 1 + b
		if b >= 200 {
			next[b] = 1 + b - 200
			continue
		}
		tags = append(tags, b)
	}
	wantBuild(t, firstOf(1, states...), alone(), secondOf(256, next[:201*256], tags...))
}

// wrongFirsts answers first machines that are not right.
func wrongFirsts() []api.Nfa {
	return []api.Nfa{
		{}, {States: []api.NState{}}, firstOf(1, e(0)), firstOf(-1, e(0)), firstOf(0, e(-1)), firstOf(0, e(200)), firstOf(0, s(0, 1)), firstOf(0, s(-1, 0)),
		firstOf(0, c("x", 1)), firstOf(0, c("", 0)), firstOf(0, api.NState{Kind: 3}), firstOf(0, e(0), api.NState{Kind: api.NfaEnd, A: 1}),
		firstOf(0, slices.Repeat([]api.NState{e(0)}, api.MaxNfa+1)...),
	}
}

// wrongClasses answers classes that are not right.
func wrongClasses() []api.Classes {
	l := []api.Classes{{}, {Many: -1}, {Many: 2}, {Many: 256}, {Many: 257}, {Many: math.MaxInt}, {Many: math.MinInt}}
	one := api.Classes{Many: 1}
	one.Of['x'] = 1
	last := api.Classes{Many: 2}
	last.Of[0] = 1
	gap := classesOf("x")
	gap.Of['x'] = 2
	more := alone()
	more.Many = 257
	return append(l, one, last, gap, more)
}

// P8.1: what may not be handed in, each alone, and all of it.
func TestBuildArg(t *testing.T) {
	good := firstOf(0, c("x", 1), e(0))
	fine := classesOf("x")
	wantBuild(t, good, fine, secondOf(2, []int{-1, 1, -1, -1}, -1, 0))
	for _, n := range wrongFirsts() {
		wantArg(t, n, fine)
		wantArg(t, n, api.Classes{})
		wantArg(t, n, alone())
	}
	for _, c := range wrongClasses() {
		wantArg(t, good, c)
		// Also where there is no set that could fit.
		wantArg(t, firstOf(0, e(0)), c)
		wantArg(t, firstOf(0, s(0, 0)), c)
	}
}

// P8.1: a set that does not fit, wherever it stands, and whether it is come to or not.
func TestBuildFits(t *testing.T) {
	fine := classesOf("x", "yz")
	for _, in := range []string{"x", "yz", "xyz", bytesFrom(0, 'w') + bytesFrom('{', 255), bytesFrom(0, 255)} {
		wantBuild(t, firstOf(1, c(in, 0), e(3)), fine, secondOf(3, []int{-1, -1, -1}, 3))
	}
	for _, in := range []string{"y", "z", "xy", "xz", "a", "\x00", "\xff", "yza", bytesFrom(0, 'w'), bytesFrom(0, 'y')} {
		for _, n := range []api.Nfa{firstOf(0, c(in, 0)), firstOf(1, c(in, 0), e(3)), firstOf(0, e(3), c("x", 0), c("yz", 1), c(in, 2)), firstOf(0, c("x", 2), c(in, 0), e(3), e(4))} {
			wantArg(t, n, fine)
			wantArg(t, n, classesOf())
			if d, err := Build(n, alone(), 10); err != api.OK || d.Many != 256 {
				t.Errorf("%s: %s, %d", shownFirst(n), shown(d), err)
			}
		}
	}
	states := slices.Repeat([]api.NState{c("x", 0)}, api.MaxNfa)
	for _, at := range []int{0, 1, 9999, api.MaxNfa - 1} {
		wrong := slices.Clone(states)
		wrong[at] = c("y", 0)
		wantErr(t, firstOf(5, wrong...), fine, 1, api.ErrArg)
	}
	wantBuild(t, firstOf(0, states...), fine, secondOf(3, []int{-1, 0, -1}, -1))
}

// thirdFromEnd answers the tree of texts of x and y, of which there is an x so many bytes ahead of the last one.
func thirdFromEnd(many int) api.Re {
	xy := set("xy")
	return cat(slices.Concat([]api.Re{star(xy), set("x")}, slices.Repeat([]api.Re{xy}, many))...)
}

// P8.1: caps that are just met, and those that are one less; machines that grow twice with each byte more.
func TestCaps(t *testing.T) {
	for many := 1; many <= 11; many++ {
		n, c := built(t, thirdFromEnd(many))
		states := 2 << many
		d, err := Build(n, c, states)
		if err != api.OK || len(d.Tags) != states || !Right(d) {
			t.Error(many, len(d.Tags), err)
		}
		wantErr(t, n, c, states-1, api.ErrCap)
		more, err := Build(n, c, api.MaxDfa)
		if err != api.OK || !same(d, more) {
			t.Error(many, len(more.Tags), err)
		}
	}
	// Far more than memory holds: it ends at the cap.
	for _, many := range []int{12, 13, 60, 9000} {
		n, c := built(t, thirdFromEnd(many))
		for _, most := range []int{1, 2, 3, 4095, 4096, api.MaxDfa} {
			wantErr(t, n, c, most, api.ErrCap)
		}
	}
}

// P8.1: machines of 5000 states, and of one more, of as few classes as may be, and of 256.
func TestManyStates(t *testing.T) {
	for _, step := range []struct {
		in    func(i int) string
		class func(i int) int
		c     api.Classes
	}{
		{func(int) string { return bytesFrom(0, 255) }, func(int) int { return 0 }, classesOf()},
		{func(int) string { return bytesFrom(1, 255) }, func(int) int { return 1 }, classesOf("\x00")},
		{func(i int) string { return bytesFrom(i%256, i%256) }, func(i int) int { return i % 256 }, alone()},
	} {
		for _, many := range []int{api.MaxDfa - 1, api.MaxDfa, api.MaxDfa + 1} {
			states := []api.NState{e(199)}
			for i := range many - 1 {
				states = append(states, c(step.in(i), i))
			}
			n := firstOf(many-1, states...)
			if many > api.MaxDfa {
				wantErr(t, n, step.c, api.MaxDfa, api.ErrCap)
				continue
			}
			next := slices.Repeat([]int{-1}, many*step.c.Many)
			tags := slices.Repeat([]int{-1}, many)
			tags[many-1] = 199
			for i := range many - 1 {
				// The state i is where the first machine stands at the last place but i.
				next[i*step.c.Many+step.class(many-2-i)] = i + 1
			}
			wantBuild(t, n, step.c, secondOf(step.c.Many, next, tags...))
		}
	}
	// 20000 states of a first machine, at all of which it stands.
	ring := make([]api.NState, api.MaxNfa)
	for i := range ring {
		ring[i] = s((i+1)%api.MaxNfa, (i*7+3)%api.MaxNfa)
	}
	ring[777] = c("x", 778)
	ring[12345], ring[12346] = e(5), e(4)
	wantBuild(t, firstOf(api.MaxNfa-1, ring...), classesOf("x"), secondOf(2, []int{-1, 0}, 4))
	ring[777] = c("x", 777)
	wantBuild(t, firstOf(api.MaxNfa-1, ring...), classesOf("x"), secondOf(2, []int{-1, 1, -1, 1}, 4, -1))
}

// P8.1: machines that are right, at the limits of classes, states and tags.
func TestRight(t *testing.T) {
	for _, many := range []int{1, 2, 255, 256} {
		none := slices.Repeat([]int{-1}, many)
		wantRight(t, secondOf(many, none, -1))
		wantRight(t, secondOf(many, none, 0))
		wantRight(t, secondOf(many, none, 199))
		wantRight(t, secondOf(many, make([]int, many), 7))
		for _, states := range []int{1, 2, api.MaxDfa - 1, api.MaxDfa} {
			tags := slices.Repeat([]int{3}, states)
			tags[states-1] = 199
			wantRight(t, secondOf(many, slices.Repeat([]int{states - 1}, many*states), tags...))
			wantRight(t, secondOf(many, slices.Repeat([]int{-1}, many*states), tags...))
		}
	}
	// A state that is not come to is as right as others.
	wantRight(t, secondOf(1, []int{-1, 0, 1}, -1, 4, 4))
	wantRight(t, api.Dfa{Many: 1, Next: []int{0, 9}[:1], Tags: []int{0, 9}[:1]})
}

// P8.1, P8.2: machines that are not right: of no classes, or too many; of no states, or too many; of too many numbers, or too few.
func TestWrongMany(t *testing.T) {
	wantWrong(t, api.Dfa{})
	wantWrong(t, api.Dfa{Next: []int{}, Tags: []int{}})
	for _, many := range []int{math.MinInt, -256, -1, 0, 257, 1 << 16, 1 << 32, math.MaxInt} {
		for _, states := range []int{0, 1, 2} {
			tags := make([]int, states)
			wantWrong(t, secondOf(many, nil, tags...))
			wantWrong(t, secondOf(many, make([]int, states), tags...))
			if many > -300 && many < 300 {
				wantWrong(t, secondOf(many, make([]int, max(0, many*states)), tags...))
			}
		}
	}
	for _, many := range []int{1, 2, 256} {
		wantWrong(t, secondOf(many, nil))
		wantWrong(t, secondOf(many, slices.Repeat([]int{-1}, many)))
		for _, states := range []int{api.MaxDfa + 1, 1 << 16} {
			wantWrong(t, secondOf(many, slices.Repeat([]int{-1}, many*states), make([]int, states)...))
		}
		for _, states := range []int{1, 2, 3, 100, api.MaxDfa} {
			for _, less := range []int{-many, -1, 1, many, states * many} {
				wantWrong(t, secondOf(many, slices.Repeat([]int{-1}, states*many-less), make([]int, states)...))
			}
		}
	}
	// As many numbers as there would be, if lengths wrapped.
	wantWrong(t, secondOf(1<<62, nil, 0, 0, 0, 0))
	wantWrong(t, secondOf(1<<62, nil, make([]int, 4096)...))
}

// P8.1, P8.2: machines that are not right: of one number that is no state's place, or no tag, wherever it stands.
func TestWrongNumbers(t *testing.T) {
	for _, many := range []int{1, 3, 256} {
		for _, states := range []int{1, 2, 5} {
			next := slices.Repeat([]int{states - 1}, many*states)
			tags := make([]int, states)
			for _, place := range []int{math.MinInt, -1 << 32, -3, -2, states, states + 1, 5000, 1 << 32, math.MaxInt} {
				for _, at := range []int{0, many - 1, many * (states - 1), many*states - 1} {
					wrong := slices.Clone(next)
					wrong[at] = place
					wantWrong(t, secondOf(many, wrong, tags...))
				}
			}
			for _, tag := range []int{math.MinInt, -1 << 32, -3, -2, 200, 201, 256, 1 << 32, math.MaxInt} {
				for at := range states {
					wrong := slices.Clone(tags)
					wrong[at] = tag
					wantWrong(t, secondOf(many, next, wrong...))
				}
			}
		}
	}
	next := slices.Repeat([]int{-1}, 256*api.MaxDfa)
	tags := make([]int, api.MaxDfa)
	wantRight(t, secondOf(256, next, tags...))
	next[len(next)-1] = api.MaxDfa
	wantWrong(t, secondOf(256, next, tags...))
	next[len(next)-1] = api.MaxDfa - 1
	wantRight(t, secondOf(256, next, tags...))
	tags[api.MaxDfa-1] = 200
	wantWrong(t, secondOf(256, next, tags...))
}

// P8.2: what is behind no classes, behind one, and so on; nowhere, and from there on.
func TestRun(t *testing.T) {
	wantRun(t, secondOf(1, []int{-1}, 7), nil, 7)
	wantRun(t, secondOf(1, []int{-1}, 7), []int{}, 7)
	wantRun(t, secondOf(1, []int{-1}, 7), []int{0, 0, 0}, 7, -1, -1, -1)
	wantRun(t, secondOf(1, []int{0}, 7), []int{0, 0, 0}, 7, 7, 7, 7)
	wantRun(t, secondOf(1, []int{-1}, -1), []int{0}, -1, -1)
	d := secondOf(2, []int{1, 0, 2, -1, 1, 2}, -1, 5, 199)
	wantRun(t, d, []int{1, 1, 0, 0, 0, 0, 1}, -1, -1, -1, 5, 199, 5, 199, 199)
	wantRun(t, d, []int{0, 1, 0, 1, 0, 0}, -1, 5, -1, -1, -1, -1, -1)
	// From nowhere a machine does not come back, though the state 0 would go on.
	wantRun(t, secondOf(2, []int{-1, 0}, 3), []int{1, 0, 1, 1}, 3, 3, -1, -1, -1)
	// Of 256 classes, each one is its own.
	next := slices.Repeat([]int{-1}, 256*3)
	next[17], next[256+255], next[512] = 1, 2, 0
	d = secondOf(256, next, 10, 11, 12)
	wantRun(t, d, []int{17, 255, 0, 17, 0}, 10, 11, 12, 10, 11, -1)
	wantRun(t, d, []int{16}, 10, -1)
	wantRun(t, d, []int{18}, 10, -1)
	long := slices.Repeat([]int{17, 255, 0}, 1<<16)
	got, err := Run(d, long)
	if err != api.OK || !slices.Equal(got, append(slices.Repeat([]int{10, 11, 12}, 1<<16), 10)) {
		t.Error(len(got), err)
	}
}

// P8.2: a number that is no class, wherever it stands, also where the machine is nowhere.
func TestRunArg(t *testing.T) {
	for _, d := range []api.Dfa{
		secondOf(1, []int{-1}, 7), secondOf(1, []int{0}, 7), secondOf(2, []int{1, 0, -1, 1}, 7, 8), secondOf(256, make([]int, 256), 0),
		secondOf(256, slices.Repeat([]int{-1}, 256), 0), secondOf(3, slices.Repeat([]int{1, 0, -1}, api.MaxDfa), make([]int, api.MaxDfa)...),
	} {
		for _, class := range []int{math.MinInt, -1 << 32, -257, -256, -2, -1, d.Many, d.Many + 1, 257, 1 << 32, math.MaxInt} {
			wantNoRun(t, d, class)
			for _, good := range []int{0, d.Many - 1} {
				wantNoRun(t, d, good, class)
				wantNoRun(t, d, class, good)
				wantNoRun(t, d, good, good, good, good, class, good)
				wantNoRun(t, d, append(slices.Repeat([]int{good}, 1<<16), class)...)
			}
			wantNoRun(t, d, class, class)
		}
	}
}

// P8.3: states that no text comes to are not there.
func TestComeTo(t *testing.T) {
	x := classesOf("x")
	wantBuild(t, firstOf(2, e(0), c("x", 0), e(1), c("x", 2)), x, secondOf(2, []int{-1, -1}, 1))
	states := slices.Repeat([]api.NState{c("x", 0)}, api.MaxNfa)
	states[0] = e(9)
	wantBuild(t, firstOf(1, states...), x, secondOf(2, []int{-1, 1, -1, -1}, -1, 9))
}

// What is handed in is not changed, and its spare room is neither changed nor looked at; what is handed out is new.
func TestMemory(t *testing.T) {
	l := []api.Re{alt(set("a"), star(cat(set("b"), empty)), set("c")), empty, star(set("d"))}
	n, c := built(t, l...)
	many := len(n.States)
	states := append(slices.Clone(n.States), api.NState{Kind: 9}, api.NState{Kind: 8})
	held := slices.Clone(states)
	n.States = states[:many]
	first, err := Build(n, c, 50)
	second, _ := Build(n, c, 50)
	if err != api.OK || !same(first, second) || !slices.Equal(states, held) {
		t.Error("Build answers otherwise, or changed what it was handed:", err)
	}
	want := api.Dfa{Many: second.Many, Next: slices.Clone(second.Next), Tags: slices.Clone(second.Tags)}
	fill(first.Next, 77)
	if !slices.Equal(first.Tags, want.Tags) {
		t.Error("two lists of one answer share memory")
	}
	fill(first.Tags, 78)
	if third, _ := Build(n, c, 50); !same(second, want) || !same(third, want) {
		t.Error("an answer changes with another one")
	}
	if _, err := Build(n, c, 1); err != api.ErrCap || !slices.Equal(states, held) {
		t.Error("what was handed in is changed:", err)
	}
	next, tags, row := roomy(want.Next), roomy(want.Tags), roomy([]int{1, 1, 0, 2})
	d := api.Dfa{Many: want.Many, Next: next[:len(want.Next)], Tags: tags[:len(want.Tags)]}
	before := [][]int{slices.Clone(next), slices.Clone(tags), slices.Clone(row)}
	got, err := Run(d, row[:4])
	again, _ := Run(d, row[:4])
	if err != api.OK || len(got) != 5 || !slices.Equal(got, again) || !Right(d) || !reflect.DeepEqual([][]int{next, tags, row}, before) {
		t.Error("Run answers otherwise, or changed what it was handed:", got, again, err)
	}
	held2 := slices.Clone(again)
	fill(got, 79)
	if !slices.Equal(again, held2) || !reflect.DeepEqual([][]int{next, tags, row}, before) {
		t.Error("an answer changes with another one:", again)
	}
}

// roomy answers a list behind which, in its spare room, numbers stand that are none.
func roomy(l []int) []int { return append(slices.Clone(l), -9, 9999) }

// fill puts a number at all places of a list, and of its spare room.
func fill(l []int, with int) {
	l = l[:cap(l)]
	for i := range l {
		l[i] = with
	}
}
