package nfa

import (
	"math"
	"reflect"
	"slices"
	"strconv"
	"strings"
	"testing"

	"franking/api"
)

// Regular trees as the chapter of layer 4 writes them. re answers one of some kids, set one of the bytes that are told.

func re(kind uint8, kids ...api.Re) api.Re { return api.Re{Kind: kind, Kids: kids} }

func cat(kids ...api.Re) api.Re { return re(api.ReCat, kids...) }

func alt(kids ...api.Re) api.Re { return re(api.ReAlt, kids...) }

func star(kid api.Re) api.Re { return re(api.ReStar, kid) }

func set(in string) api.Re { return api.Re{Kind: api.ReSet, Set: setOf(in)} }

// empty is the regular tree of nothing.
var empty = api.Re{}

// setOf answers the set of the bytes that are told.
func setOf(in string) api.Set {
	var s api.Set
	for i := range len(in) {
		s[in[i]/64] |= 1 << (in[i] % 64)
	}
	return s
}

// bytesFrom answers all bytes from one to another one.
func bytesFrom(lo, hi int) string {
	var out []byte
	for b := lo; b <= hi; b++ {
		out = append(out, byte(b))
	}
	return string(out)
}

// The states of a machine as the chapter writes them: NfaEnd, NfaByte, NfaSplit.

func e(tag int) api.NState { return api.NState{Kind: 0, Tag: tag} }

func c(in string, a int) api.NState { return api.NState{Kind: 1, Set: setOf(in), A: a} }

func s(a, b int) api.NState { return api.NState{Kind: 2, A: a, B: b} }

func machineOf(start int, states ...api.NState) api.Nfa {
	return api.Nfa{Start: start, States: states}
}

// shown answers a machine as a text.
func shown(n api.Nfa) string {
	out := "start " + strconv.Itoa(n.Start)
	for place, s := range n.States {
		if place > 30 {
			return out + ", and so on to " + strconv.Itoa(len(n.States))
		}
		var in []byte
		for b := range 256 {
			if s.Set[b/64]>>(b%64)&1 == 1 {
				in = append(in, byte(b))
			}
		}
		out += ", " + strconv.Itoa(place) + ": "
		out += strings.Join([]string{strconv.Itoa(int(s.Kind)), strconv.Quote(string(in)), strconv.Itoa(s.A), strconv.Itoa(s.B), strconv.Itoa(s.Tag)}, " ")
	}
	return out
}

// wantBuild holds that some trees are that machine: with as many states as it has, one more, and the most; and that one less is too few.
func wantBuild(t testing.TB, l []api.Re, want api.Nfa) {
	t.Helper()
	many := len(want.States)
	for _, most := range []int{many, min(many+1, api.MaxNfa), api.MaxNfa} {
		got, err := Build(l, most)
		if err != api.OK || got.Start != want.Start || !slices.Equal(got.States, want.States) {
			t.Errorf("%d trees, most %d: %d, %s; want %s", len(l), most, err, shown(got), shown(want))
		}
		if !Right(got) {
			t.Errorf("%d trees, most %d: a machine that is not right: %s", len(l), most, shown(got))
		}
	}
	if many > 1 {
		wantErr(t, l, many-1, api.ErrCap)
	} else {
		wantErr(t, l, many-1, api.ErrArg)
	}
}

func wantErr(t testing.TB, l []api.Re, most int, want api.Errno) {
	t.Helper()
	if got, err := Build(l, most); err != want || got.Start != 0 || len(got.States) != 0 {
		t.Errorf("%d trees, most %d: %d, %s; want %d, and nothing", len(l), most, err, shown(got), want)
	}
}

func wantRun(t testing.TB, n api.Nfa, s string, want ...int) {
	t.Helper()
	got, err := Run(n, s)
	if err != api.OK || !slices.Equal(got, want) {
		t.Errorf("%s, %q: %v, %d; want %v", shown(n), s, got, err, want)
	}
}

func wantNoRun(t testing.TB, n api.Nfa) {
	t.Helper()
	if Right(n) {
		t.Errorf("%s is right", shown(n))
	}
	for _, s := range []string{"", "x", "xxxx", "\x00\xff"} {
		if got, err := Run(n, s); err != api.ErrArg || len(got) != 0 {
			t.Errorf("%s, %q: %v, %d; want ErrArg, and nothing", shown(n), s, got, err)
		}
	}
}

// P7.1, P7.2: the chapter's example.
func TestExample(t *testing.T) {
	l := []api.Re{set("b"), star(set("a"))}
	wantBuild(t, l, machineOf(5, e(0), c("b", 0), e(1), s(4, 2), c("a", 3), s(1, 3)))
	n, _ := Build(l, 6)
	wantRun(t, n, "b", 1, 0)
	wantRun(t, n, "aab", 1, 1, 1, -1)
	wantRun(t, n, "", 1)
}

// P7.1: each kind of tree, within each other kind, first and last, state by state.
func TestKinds(t *testing.T) {
	x, y, z := set("x"), set("y"), set("z")
	for _, k := range []struct {
		r    api.Re
		want api.Nfa
	}{
		{empty, machineOf(0, e(0))},
		{api.Re{Kids: []api.Re{}}, machineOf(0, e(0))},
		{x, machineOf(1, e(0), c("x", 0))},
		{set(bytesFrom(0, 255)), machineOf(1, e(0), c(bytesFrom(0, 255), 0))},

		{cat(empty, empty), machineOf(0, e(0))},
		{cat(empty, x), machineOf(1, e(0), c("x", 0))},
		{cat(x, empty), machineOf(1, e(0), c("x", 0))},
		{cat(x, y), machineOf(2, e(0), c("y", 0), c("x", 1))},
		{cat(x, y, z), machineOf(3, e(0), c("z", 0), c("y", 1), c("x", 2))},
		{cat(x, empty, y, empty, z), machineOf(3, e(0), c("z", 0), c("y", 1), c("x", 2))},
		{cat(cat(x, y), z), machineOf(3, e(0), c("z", 0), c("y", 1), c("x", 2))},
		{cat(x, cat(y, z)), machineOf(3, e(0), c("z", 0), c("y", 1), c("x", 2))},
		{cat(alt(x, y), z), machineOf(4, e(0), c("z", 0), c("y", 1), c("x", 1), s(3, 2))},
		{cat(z, alt(x, y)), machineOf(4, e(0), c("y", 0), c("x", 0), s(2, 1), c("z", 3))},
		{cat(star(x), z), machineOf(2, e(0), c("z", 0), s(3, 1), c("x", 2))},
		{cat(z, star(x)), machineOf(3, e(0), s(2, 0), c("x", 1), c("z", 1))},
		{cat(star(x), star(y)), machineOf(3, e(0), s(2, 0), c("y", 1), s(4, 1), c("x", 3))},

		{alt(empty, empty), machineOf(1, e(0), s(0, 0))},
		{alt(empty, empty, empty), machineOf(2, e(0), s(0, 0), s(0, 1))},
		{alt(empty, x), machineOf(2, e(0), c("x", 0), s(0, 1))},
		{alt(x, empty), machineOf(2, e(0), c("x", 0), s(1, 0))},
		{alt(x, x), machineOf(3, e(0), c("x", 0), c("x", 0), s(2, 1))},
		{alt(x, y), machineOf(3, e(0), c("y", 0), c("x", 0), s(2, 1))},
		{alt(x, y, z), machineOf(5, e(0), c("z", 0), c("y", 0), s(2, 1), c("x", 0), s(4, 3))},
		{alt(x, empty, z), machineOf(4, e(0), c("z", 0), s(0, 1), c("x", 0), s(3, 2))},
		{alt(cat(x, y), z), machineOf(4, e(0), c("z", 0), c("y", 0), c("x", 2), s(3, 1))},
		{alt(z, cat(x, y)), machineOf(4, e(0), c("y", 0), c("x", 1), c("z", 0), s(3, 2))},
		{alt(alt(x, y), z), machineOf(5, e(0), c("z", 0), c("y", 0), c("x", 0), s(3, 2), s(4, 1))},
		{alt(z, alt(x, y)), machineOf(5, e(0), c("y", 0), c("x", 0), s(2, 1), c("z", 0), s(4, 3))},
		{alt(star(x), z), machineOf(4, e(0), c("z", 0), s(3, 0), c("x", 2), s(2, 1))},
		{alt(z, star(x)), machineOf(4, e(0), s(2, 0), c("x", 1), c("z", 0), s(3, 1))},

		{star(empty), machineOf(1, e(0), s(1, 0))},
		{star(x), machineOf(1, e(0), s(2, 0), c("x", 1))},
		{star(cat(empty, empty)), machineOf(1, e(0), s(1, 0))},
		{star(cat(x, y)), machineOf(1, e(0), s(3, 0), c("y", 1), c("x", 2))},
		{star(alt(x, y)), machineOf(1, e(0), s(4, 0), c("y", 1), c("x", 1), s(3, 2))},
		{star(alt(empty, x)), machineOf(1, e(0), s(3, 0), c("x", 1), s(1, 2))},
		{star(star(x)), machineOf(1, e(0), s(2, 0), s(3, 1), c("x", 2))},
		{star(star(empty)), machineOf(1, e(0), s(2, 0), s(2, 1))},
	} {
		wantBuild(t, []api.Re{k.r}, k.want)
		// Behind another tree all stands two states further, with the next tag, and the beginning of that tree ahead of its own.
		behind := []api.NState{e(0), c("w", 0)}
		for _, st := range k.want.States {
			switch st.Kind {
			case api.NfaEnd:
				st.Tag++
			case api.NfaByte:
				st.A += 2
			default:
				st.A, st.B = st.A+2, st.B+2
			}
			behind = append(behind, st)
		}
		behind = append(behind, s(1, k.want.Start+2))
		wantBuild(t, []api.Re{set("w"), k.r}, machineOf(len(behind)-1, behind...))
		// And ahead of another one.
		ahead := append(slices.Clone(k.want.States), e(1), s(k.want.Start, len(k.want.States)))
		wantBuild(t, []api.Re{k.r, empty}, machineOf(len(ahead)-1, ahead...))
	}
}

// P7.1: some trees: the ends ahead of each, and all their beginnings behind the last one.
func TestTrees(t *testing.T) {
	x, y := set("x"), set("y")
	wantBuild(t, []api.Re{empty, empty}, machineOf(2, e(0), e(1), s(0, 1)))
	wantBuild(t, []api.Re{empty, empty, empty}, machineOf(4, e(0), e(1), e(2), s(1, 2), s(0, 3)))
	wantBuild(t, []api.Re{x, x}, machineOf(4, e(0), c("x", 0), e(1), c("x", 2), s(1, 3)))
	wantBuild(t, []api.Re{x, empty, star(y), cat(x, y)}, machineOf(11, e(0), c("x", 0), e(1), e(2), s(5, 3), c("y", 4), e(3), c("y", 6), c("x", 7), s(4, 8), s(2, 9), s(1, 10)))
}

// P7.1: 200 trees, and one more; none.
func TestManyTrees(t *testing.T) {
	var want []api.NState
	for tag := range api.MaxNames {
		want = append(want, e(tag))
	}
	for tree := api.MaxNames - 2; tree >= 0; tree-- {
		want = append(want, s(tree, len(want)-1))
	}
	l := make([]api.Re, api.MaxNames+1)
	wantBuild(t, l[:api.MaxNames], machineOf(398, want...))
	n, _ := Build(l[:api.MaxNames], 399)
	wantRun(t, n, "x", 0, -1)
	wantErr(t, l[:api.MaxNames], 1, api.ErrCap)
	for _, most := range []int{math.MinInt, -1, 0, 1, 399, api.MaxNfa, api.MaxNfa + 1, math.MaxInt} {
		wantErr(t, l, most, api.ErrArg)
		wantErr(t, make([]api.Re, 1<<16), most, api.ErrArg)
		wantErr(t, nil, most, api.ErrArg)
		wantErr(t, l[:0], most, api.ErrArg)
	}
	for i := range l {
		l[i] = cat(set("x"), set(bytesFrom(i, i)))
	}
	n, err := Build(l[:api.MaxNames], api.MaxNfa)
	if err != api.OK || len(n.States) != 200*3+199 {
		t.Fatal(err, len(n.States))
	}
	for i := range 256 {
		tag := i
		if i >= api.MaxNames {
			tag = -1
		}
		wantRun(t, n, "x"+bytesFrom(i, i), -1, -1, tag)
	}
}

// P7.1: caps that may not be, those that are just met, and those that are one less, up to the greatest one.
func TestCaps(t *testing.T) {
	x := set("x")
	xs := func(many int) []api.Re { return slices.Repeat([]api.Re{x}, many) }
	deep := func(many int) api.Re {
		r := empty
		for range many {
			r = star(r)
		}
		return r
	}
	for i, k := range []struct {
		l    []api.Re
		many int
	}{
		{[]api.Re{empty}, 1}, {[]api.Re{x}, 2}, {[]api.Re{star(empty)}, 2}, {[]api.Re{alt(empty, empty)}, 2}, {[]api.Re{empty, empty}, 3},
		{[]api.Re{alt(cat(x, x), star(x), empty)}, 7}, {xs(200), 599},
		{[]api.Re{cat(xs(19999)...)}, 20000}, {[]api.Re{cat(xs(20000)...)}, 20001}, {[]api.Re{cat(xs(9999)...), cat(xs(9998)...)}, 20000}, {[]api.Re{cat(xs(9999)...), cat(xs(9999)...)}, 20001},
		{[]api.Re{alt(xs(10000)...)}, 20000}, {[]api.Re{alt(empty, alt(xs(10000)...))}, 20001}, {[]api.Re{deep(19999)}, 20000}, {[]api.Re{deep(20000)}, 20001},
		{[]api.Re{cat(slices.Repeat([]api.Re{empty}, 30000)...)}, 1}, {[]api.Re{alt(make([]api.Re, 20000)...)}, 20000}, {[]api.Re{alt(make([]api.Re, 20001)...)}, 20001},
		{append(xs(199), cat(xs(19402)...)), 20000}, {append(xs(199), cat(xs(19403)...)), 20001},
	} {
		for _, most := range []int{math.MinInt, -1, 0, api.MaxNfa + 1, 1 << 32, math.MaxInt} {
			wantErr(t, k.l, most, api.ErrArg)
		}
		for _, most := range []int{1, 2, 5, k.many / 2, k.many - 2, k.many - 1, k.many, k.many + 1, api.MaxNfa - 1, api.MaxNfa} {
			if most < 1 || most > api.MaxNfa {
				continue
			}
			if most < k.many {
				wantErr(t, k.l, most, api.ErrCap)
			} else if n, err := Build(k.l, most); err != api.OK || len(n.States) != k.many || !Right(n) {
				t.Error(i, most, err, len(n.States))
			}
		}
	}
}

// wrongTrees answers regular trees that are not right, of each kind.
func wrongTrees() []api.Re {
	x := set("x")
	var l []api.Re
	for _, kind := range []uint8{api.ReNone, api.ReCat, api.ReAlt, api.ReStar} {
		l = append(l, api.Re{Kind: kind, Set: x.Set}, api.Re{Kind: kind, Set: x.Set, Kids: []api.Re{x}}, api.Re{Kind: kind, Set: x.Set, Kids: []api.Re{x, x}})
	}
	l = append(l, api.Re{Kind: api.ReSet}, api.Re{Kind: api.ReSet, Set: x.Set, Kids: []api.Re{x}}, api.Re{Kind: api.ReSet, Set: x.Set, Kids: []api.Re{set("y"), star(set("z"))}})
	l = append(l, re(api.ReNone, x), re(api.ReNone, x, x), re(api.ReSet, x), cat(), cat(x), alt(), alt(x), re(api.ReStar), re(api.ReStar, x, x))
	return append(l, re(5), re(5, x), re(5, x, x), api.Re{Kind: 5, Set: x.Set}, re(255, x))
}

// P7.1: one tree that is not right, wherever it stands, is enough, and is told ahead of too many states.
func TestWrongTrees(t *testing.T) {
	x, y := set("x"), set("xy")
	for _, wrong := range wrongTrees() {
		for _, r := range []api.Re{wrong, star(wrong), cat(wrong, x), cat(x, y, wrong), alt(x, wrong, y), alt(star(star(wrong)), x), cat(x, alt(y, cat(x, wrong)))} {
			for _, most := range []int{-1, 0, 1, 2, api.MaxNfa, api.MaxNfa + 1} {
				wantErr(t, []api.Re{r}, most, api.ErrArg)
				wantErr(t, []api.Re{r, x, y}, most, api.ErrArg)
				wantErr(t, []api.Re{x, r, y}, most, api.ErrArg)
				wantErr(t, []api.Re{x, y, r}, most, api.ErrArg)
				wantErr(t, append(slices.Repeat([]api.Re{x}, 199), r), most, api.ErrArg)
			}
		}
	}
}

// P7.1: machines that are right, at the limits of what each state may be.
func TestRight(t *testing.T) {
	all := bytesFrom(0, 255)
	for _, n := range []api.Nfa{
		machineOf(0, e(0)), machineOf(0, e(199)), machineOf(0, s(0, 0)), machineOf(0, c("x", 0)), machineOf(0, c(all, 0)), machineOf(0, c("\x00", 0)), machineOf(0, c("\xff", 0)),
		machineOf(0, e(5), e(5), e(5)), machineOf(2, e(5), e(7), e(0)), machineOf(1, s(0, 2), s(2, 0), c("x", 2)), machineOf(1, c("x", 2), c("x", 0), c("x", 1)),
		{States: slices.Repeat([]api.NState{s(api.MaxNfa-1, api.MaxNfa-1)}, api.MaxNfa), Start: api.MaxNfa - 1},
		{States: slices.Repeat([]api.NState{c("x", api.MaxNfa-1)}, api.MaxNfa)},
	} {
		if !Right(n) {
			t.Errorf("not right: %s", shown(n))
		}
		if got, err := Run(n, "xx"); err != api.OK || len(got) != 3 {
			t.Errorf("%s: %v, %d", shown(n), got, err)
		}
	}
}

// wrongStates answers states that are not right in a machine of that many, in each way that there is.
func wrongStates(many int) []api.NState {
	var l []api.NState
	wrong := func(good api.NState, change func(*api.NState)) {
		change(&good)
		l = append(l, good)
	}
	// Of several states 1 is the place of one, which is no better where the kind names nothing.
	for _, other := range []int{math.MinInt, -1, 1, math.MaxInt} {
		wrong(e(0), func(s *api.NState) { s.A = other })
		wrong(e(0), func(s *api.NState) { s.B = other })
		wrong(c("x", 0), func(s *api.NState) { s.B = other })
		wrong(c("x", 0), func(s *api.NState) { s.Tag = other })
		wrong(s(0, 0), func(s *api.NState) { s.Tag = other })
	}
	for _, tag := range []int{math.MinInt, -1, 200, 201, 256, 1 << 32, math.MaxInt} {
		l = append(l, e(tag))
	}
	for _, place := range []int{math.MinInt, -1 << 32, -1, many, many + 1, 1 << 32, math.MaxInt} {
		l = append(l, c("x", place), s(place, 0), s(0, place), s(place, place))
	}
	for word := range 4 {
		for _, good := range []api.NState{e(0), e(199), s(0, 0)} {
			wrong(good, func(s *api.NState) { s.Set[word] = 1 })
			wrong(good, func(s *api.NState) { s.Set[word] = 1 << 63 })
		}
	}
	l = append(l, c("", 0))
	for _, kind := range []uint8{3, 4, 5, 128, 255} {
		l = append(l, api.NState{Kind: kind})
		for _, good := range []api.NState{c("x", 0), s(0, 0), e(1)} {
			wrong(good, func(s *api.NState) { s.Kind = kind })
		}
	}
	return l
}

// P7.1, P7.2: of one state that is not right, wherever it stands, and whether it is come to or not, the machine is not right, and has no Run.
func TestWrongStates(t *testing.T) {
	for _, many := range []int{1, 2, 5} {
		good := slices.Repeat([]api.NState{s(0, 0)}, many)
		for _, wrong := range wrongStates(many) {
			for at := range many {
				states := slices.Clone(good)
				states[at] = wrong
				wantNoRun(t, machineOf(0, states...))
				wantNoRun(t, machineOf(many-1, states...))
			}
		}
	}
	states := slices.Repeat([]api.NState{c("x", 0)}, api.MaxNfa)
	for _, at := range []int{0, 1, 64, api.MaxNfa - 1} {
		wrong := slices.Clone(states)
		wrong[at] = c("x", api.MaxNfa)
		wantNoRun(t, machineOf(0, wrong...))
	}
}

// P7.1, P7.2: machines of no states, of too many, and that start nowhere.
func TestWrongMachines(t *testing.T) {
	wantNoRun(t, api.Nfa{})
	wantNoRun(t, api.Nfa{States: []api.NState{}})
	for _, states := range [][]api.NState{nil, {e(0)}, {e(0), s(0, 0), c("x", 1)}, slices.Repeat([]api.NState{e(1)}, api.MaxNfa)} {
		many := len(states)
		for _, start := range []int{math.MinInt, -1 << 32, -1, many, many + 1, 1 << 32, math.MaxInt} {
			wantNoRun(t, machineOf(start, states...))
		}
	}
	for _, state := range []api.NState{e(0), c("x", 0), s(0, 0)} {
		wantNoRun(t, machineOf(0, slices.Repeat([]api.NState{state}, api.MaxNfa+1)...))
		wantNoRun(t, machineOf(api.MaxNfa, slices.Repeat([]api.NState{state}, api.MaxNfa+1)...))
	}
}

// P7.2: what is behind no bytes, behind one, and so on.
func TestRun(t *testing.T) {
	wantRun(t, machineOf(0, e(7)), "", 7)
	wantRun(t, machineOf(0, e(7)), "xyz", 7, -1, -1, -1)
	wantRun(t, machineOf(1, e(7), c("x", 0)), "xx", -1, 7, -1)
	wantRun(t, machineOf(1, e(7), c("x", 0)), "", -1)
	// A state that is not come to tells nothing.
	wantRun(t, machineOf(1, e(0), e(3), c("x", 0)), "x", 3, -1)
	// Of several ends, the least tag, wherever it stands.
	wantRun(t, machineOf(3, e(4), e(2), s(0, 1), s(2, 4), e(3)), "", 2)
	wantRun(t, machineOf(3, e(2), e(4), s(0, 1), s(4, 2), e(3)), "", 2)
	wantRun(t, machineOf(2, e(1), e(1), s(0, 1)), "", 1)
	wantRun(t, machineOf(2, e(0), e(199), s(1, 0)), "", 0)
	wantRun(t, machineOf(2, e(199), e(198), s(1, 0)), "", 198)
	// Two ways by one byte, and one that ends.
	wantRun(t, machineOf(4, e(0), e(1), c("x", 0), c("xy", 1), s(2, 3)), "x", -1, 0)
	wantRun(t, machineOf(4, e(0), e(1), c("x", 0), c("xy", 1), s(2, 3)), "y", -1, 1)
	wantRun(t, machineOf(4, e(0), e(1), c("x", 0), c("xy", 1), s(2, 3)), "zx", -1, -1, -1)
	// By a byte to itself, and on.
	wantRun(t, machineOf(2, e(9), c("y", 0), s(1, 3), c("x", 2)), "xxyx", -1, -1, -1, 9, -1)
}

// P7.2: each byte is in its own place of a set, and no other one.
func TestBytes(t *testing.T) {
	for b := range 256 {
		one := bytesFrom(b, b)
		n := machineOf(0, c(one, 1), e(0))
		but := machineOf(0, c(bytesFrom(0, b-1)+bytesFrom(b+1, 255), 1), e(0))
		for other := range 256 {
			tag := -1
			if other == b {
				tag = 0
			}
			wantRun(t, n, bytesFrom(other, other), -1, tag)
			wantRun(t, but, bytesFrom(other, other), -1, -1-tag)
		}
	}
	wantRun(t, machineOf(0, c("\xc3\xa9", 1), e(0)), "\xc3\xa9", -1, 0, -1)
}

// P7.2: ways without a byte that go round, at once, or by others.
func TestRound(t *testing.T) {
	wantRun(t, machineOf(0, s(0, 0)), "xx", -1, -1, -1)
	wantRun(t, machineOf(0, s(0, 1), e(3)), "x", 3, -1)
	wantRun(t, machineOf(0, s(1, 0), s(2, 1), s(0, 3), e(3)), "x", 3, -1)
	wantRun(t, machineOf(1, c("x", 1), s(2, 2), s(1, 3), s(0, 4), e(8)), "xxyx", 8, 8, 8, -1, -1)
	// A ring of all states that there may be, each of which is gone through once.
	ring := make([]api.NState, api.MaxNfa)
	for i := range ring {
		ring[i] = s((i+1)%api.MaxNfa, (i*7+3)%api.MaxNfa)
	}
	ring[777] = c("x", 778)
	ring[12345] = e(5)
	wantRun(t, machineOf(api.MaxNfa-1, ring...), "xxy", 5, 5, 5, -1)
}

// P7.2, P7.3: stars of what may be empty, and of stars.
func TestStars(t *testing.T) {
	x, y := set("x"), set("y")
	for _, r := range []api.Re{star(star(x)), star(alt(empty, x)), star(alt(x, empty)), star(cat(star(x), star(x))), star(cat(empty, alt(star(x), star(empty)))), cat(star(x), star(star(star(x)))), alt(empty, star(cat(x, star(x))))} {
		n, err := Build([]api.Re{cat(x, x), r, star(y)}, 100)
		if err != api.OK {
			t.Fatal(err)
		}
		wantRun(t, n, "", 1)
		wantRun(t, n, "xxxyx", 1, 1, 0, 1, -1, -1)
		wantRun(t, n, "yyx", 1, 2, 2, -1)
	}
	n, _ := Build([]api.Re{star(star(empty))}, 10)
	wantRun(t, n, "x", 0, -1)
	n, _ = Build([]api.Re{star(cat(star(x), y)), star(cat(x, star(y)))}, 20)
	wantRun(t, n, "xyyxx", 0, 1, 0, 0, 1, 1)
}

// Trees that are very deep, very broad, or of lists that stand many times: the calls end, and soon.
func TestGreatTrees(t *testing.T) {
	const many = 1 << 18
	for _, low := range []api.Re{set("x"), re(api.ReStar)} {
		deep, left, right := low, low, low
		for range many {
			deep, left, right = star(deep), cat(left, empty), cat(empty, right)
		}
		broad := make([]api.Re, many)
		broad[many-1] = low
		for i, r := range []api.Re{left, right, cat(broad...), deep, alt(broad...)} {
			switch {
			case low.Kind == api.ReStar:
				wantErr(t, []api.Re{r}, api.MaxNfa, api.ErrArg)
			case i < 3:
				wantBuild(t, []api.Re{r, r}, machineOf(4, e(0), c("x", 0), e(1), c("x", 2), s(1, 3)))
			default:
				wantErr(t, []api.Re{r}, api.MaxNfa, api.ErrCap)
				wantErr(t, slices.Repeat([]api.Re{r}, 5), api.MaxNfa, api.ErrCap)
			}
		}
	}
	r := set("x")
	for range 20 {
		r = cat(r, r)
	}
	wantErr(t, []api.Re{r, r}, api.MaxNfa, api.ErrCap)
}

// A great machine upon a long text: it stands at nearly all of its states at first, then at few, then nowhere.
func TestGreatRun(t *testing.T) {
	l := slices.Repeat([]api.Re{star(set("x"))}, 6666)
	n, err := Build([]api.Re{cat(l...), alt(l...)}, api.MaxNfa)
	if err != api.ErrCap {
		t.Error(len(n.States), err)
	}
	n, err = Build([]api.Re{cat(l...), star(set("xy"))}, api.MaxNfa)
	if err != api.OK || len(n.States) != 13337 {
		t.Fatal(len(n.States), err)
	}
	text := strings.Repeat("x", 2000) + "y" + strings.Repeat("x", 1<<16) + "z" + strings.Repeat("x", 1<<16)
	got, err := Run(n, text)
	if err != api.OK || len(got) != len(text)+1 {
		t.Fatal(len(got), err)
	}
	for i, tag := range got {
		want := 0
		if i > 2000 {
			want = 1
		}
		if i > 2001+1<<16 {
			want = -1
		}
		if tag != want {
			t.Fatal(i, tag)
		}
	}
}

// roomy answers trees whose lists have spare room, in which something wrong stands.
func roomy(l []api.Re) []api.Re {
	out := append(slices.Clone(l), api.Re{Kind: 9})
	for i := range l {
		out[i].Kids = roomy(out[i].Kids)
	}
	return out[:len(l)]
}

// spread answers trees with what stands in their lists' spare room, so that it can be compared.
func spread(l []api.Re) []api.Re {
	out := slices.Clone(l[:cap(l)])
	for i := range out {
		out[i].Kids = spread(out[i].Kids)
	}
	return out
}

// What is handed in is not changed, and its spare room is neither changed nor looked at; what is handed out is new.
func TestMemory(t *testing.T) {
	l := roomy([]api.Re{alt(set("a"), star(cat(set("b"), empty)), set("c")), empty, star(set("d"))})
	before := spread(l)
	first, err := Build(l, 50)
	second, _ := Build(l, 50)
	if err != api.OK || !reflect.DeepEqual(first, second) || !reflect.DeepEqual(spread(l), before) {
		t.Error("Build answers otherwise, or changed what it was handed:", err)
	}
	want := slices.Clone(second.States)
	clear(first.States[:cap(first.States)])
	if third, _ := Build(l, 50); !slices.Equal(second.States, want) || !slices.Equal(third.States, want) {
		t.Error("an answer changes with another one")
	}
	wantErr(t, l, 5, api.ErrCap)
	if !reflect.DeepEqual(spread(l), before) {
		t.Error("what was handed in is changed")
	}
	states := append(slices.Clone(want), api.NState{Kind: 9}, api.NState{Kind: 8})
	held := slices.Clone(states)
	n := machineOf(second.Start, states[:len(want)]...)
	tags, err := Run(n, "bbd")
	again, _ := Run(n, "bbd")
	if err != api.OK || !slices.Equal(tags, []int{0, 0, 0, -1}) || !slices.Equal(again, tags) || !slices.Equal(states, held) {
		t.Error("Run answers otherwise, or changed what it was handed:", tags, again, err)
	}
	clear(tags[:cap(tags)])
	if !slices.Equal(again, []int{0, 0, 0, -1}) {
		t.Error("an answer changes with another one:", again)
	}
}
