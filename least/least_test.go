package least

import (
	"math"
	"slices"
	"strconv"
	"testing"

	"franking/api"
	"franking/dfa"
)

// secondOf answers a machine of so many classes, of what its states come to, and of their tags.
func secondOf(many int, next []int, tags ...int) api.Dfa {
	return api.Dfa{Many: many, Next: next, Tags: tags}
}

// shown answers a second machine as a text.
func shown(d api.Dfa) string {
	out := "many " + strconv.Itoa(d.Many)
	for i, l := range [][]int{d.Next, d.Tags} {
		out += []string{", next", ", tags"}[i]
		for i, n := range l {
			if i > 100 {
				out += " and so on, " + strconv.Itoa(len(l)) + " in all"
				break
			}
			out += " " + strconv.Itoa(n)
		}
	}
	return out
}

func same(a, b api.Dfa) bool {
	return a.Many == b.Many && slices.Equal(a.Next, b.Next) && slices.Equal(a.Tags, b.Tags)
}

func isNothing(d api.Dfa) bool { return same(d, api.Dfa{}) }

// wantLeast holds that the least machine of one is that other one, which is right, and its own least one.
func wantLeast(t testing.TB, d, want api.Dfa) {
	t.Helper()
	for _, one := range []api.Dfa{d, want} {
		got, err := Least(one)
		if err != api.OK || !same(got, want) {
			t.Errorf("%s: %d, %s; want %s", shown(one), err, shown(got), shown(want))
		}
		if !dfa.Right(got) {
			t.Errorf("%s: a machine that is not right: %s", shown(one), shown(got))
		}
	}
}

// wantAlike holds whether two states are alike, in both orders.
func wantAlike(t testing.TB, d api.Dfa, a, b int, want bool) {
	t.Helper()
	for range 2 {
		if is, err := Alike(d, a, b); err != api.OK || is != want {
			t.Errorf("%s: %d and %d: %v, %d; want %v", shown(d), a, b, is, err, want)
		}
		a, b = b, a
	}
}

func wantNotAsked(t testing.TB, d api.Dfa, a, b int) {
	t.Helper()
	for range 2 {
		if is, err := Alike(d, a, b); err != api.ErrArg || is {
			t.Errorf("%s: %d and %d: %v, %d; want ErrArg, and no", shown(d), a, b, is, err)
		}
		a, b = b, a
	}
}

// wantWrong holds that a machine is none that is asked.
func wantWrong(t testing.TB, d api.Dfa) {
	t.Helper()
	if got, err := Least(d); err != api.ErrArg || !isNothing(got) {
		t.Errorf("%s: %d, %s; want ErrArg, and nothing", shown(d), err, shown(got))
	}
	for _, a := range []int{-2, -1, 0, 1, len(d.Tags) - 1, len(d.Tags)} {
		wantNotAsked(t, d, a, -1)
		wantNotAsked(t, d, a, 0)
		wantNotAsked(t, d, a, a)
	}
}

// P9.1: the chapter's examples.
func TestExamples(t *testing.T) {
	wantLeast(t, secondOf(1, []int{1, 2, 2}, 0, 0, 0), secondOf(1, []int{0}, 0))
	wantLeast(t, secondOf(2, []int{1, 2, 1, 2, 1, 2}, -1, 0, 0), secondOf(2, []int{1, 1, 1, 1}, -1, 0))
	wantLeast(t, secondOf(1, []int{0}, -1), secondOf(1, []int{-1}, -1))
	wantLeast(t, secondOf(3, []int{0, 0, 0}, -1), secondOf(3, []int{-1, -1, -1}, -1))
}

// P9.1: states that have tags, and states that have none, with nothing behind them.
func TestTags(t *testing.T) {
	for _, tag := range []int{-1, 0, 1, 198, 199} {
		one := secondOf(1, []int{-1}, tag)
		wantLeast(t, one, one)
		wantAlike(t, one, 0, -1, tag == -1)
		wantAlike(t, one, 0, 0, true)
		wantAlike(t, one, -1, -1, true)
		for _, other := range []int{-1, 0, 1, 198, 199} {
			wantAlike(t, secondOf(1, []int{-1, -1}, tag, other), 0, 1, tag == other)
		}
	}
	// All tags: none is alike to another one.
	d := api.Dfa{Many: 1}
	for i := range 200 {
		d.Next, d.Tags = append(d.Next, i+1), append(d.Tags, 199-i)
	}
	d.Next[199] = 0
	wantLeast(t, d, d)
	for a := -1; a < 200; a++ {
		wantAlike(t, d, a, 57, a == 57)
	}
}

// P9.1: groups are numbered as they are met: from that of the state 0 on, state by state, class by class.
func TestNumbers(t *testing.T) {
	for _, k := range []struct{ d, want api.Dfa }{
		// The later class leads to the earlier state, and the other way round.
		{secondOf(2, []int{2, 1, -1, -1, -1, -1}, 5, 6, 7), secondOf(2, []int{1, 2, -1, -1, -1, -1}, 5, 7, 6)},
		{secondOf(2, []int{1, 2, -1, -1, -1, -1}, 5, 6, 7), secondOf(2, []int{1, 2, -1, -1, -1, -1}, 5, 6, 7)},
		// What the state 0 comes to is ahead of what that comes to.
		{secondOf(2, []int{3, 4, -1, -1, -1, -1, 1, -1, -1, 2}, 5, 6, 7, 8, 9), secondOf(2, []int{1, 2, 3, -1, -1, 4, -1, -1, -1, -1}, 5, 8, 9, 6, 7)},
		// A group is met by any of its states.
		{secondOf(2, []int{2, 3, -1, -1, 1, -1, 1, -1}, 5, 6, 7, 7), secondOf(2, []int{1, 1, 2, -1, -1, -1}, 5, 7, 6)},
		// Back to the state 0, or to one that is alike to it.
		{secondOf(1, []int{1, 0}, 5, 6), secondOf(1, []int{1, 0}, 5, 6)},
		{secondOf(1, []int{2, 2, 1}, 5, 5, 6), secondOf(1, []int{1, 0}, 5, 6)},
		{secondOf(2, []int{0, 1, 1, 0}, 5, 5), secondOf(2, []int{0, 0}, 5)},
		// By the last of some classes alone.
		{secondOf(3, []int{-1, -1, 2, -1, -1, -1, -1, 0, -1}, 5, 6, 7), secondOf(3, []int{-1, -1, 1, -1, 0, -1}, 5, 7)},
	} {
		wantLeast(t, k.d, k.want)
	}
}

// P9.1: numbers that are no states', and those at the edges, of machines small and great.
func TestAlikeArg(t *testing.T) {
	for _, many := range []int{1, 2, 3, 100, api.MaxDfa} {
		d := secondOf(1, slices.Repeat([]int{many - 1}, many), make([]int, many)...)
		for _, a := range []int{-1, 0, many - 1} {
			wantAlike(t, d, a, a, true)
			wantAlike(t, d, a, many-1, a != -1)
			wantAlike(t, d, a, -1, a == -1)
			for _, b := range []int{math.MinInt, -1 << 32, -many - 1, -3, -2, many, many + 1, 5000, 1 << 32, math.MaxInt} {
				wantNotAsked(t, d, a, b)
				wantNotAsked(t, d, b, b)
			}
		}
	}
}

// P9.1: machines that are not right, each by one thing.
func TestWrong(t *testing.T) {
	good := func() api.Dfa { return secondOf(2, []int{1, -1, 0, 1}, -1, 3) }
	d := good()
	wantLeast(t, d, d)
	wantWrong(t, api.Dfa{})
	for _, many := range []int{math.MinInt, -2, -1, 0, 1, 3, 4, 256, 257, 1 << 32, math.MaxInt} {
		d := good()
		d.Many = many
		wantWrong(t, d)
	}
	for _, to := range []int{math.MinInt, -3, -2, 2, 3, 1 << 32, math.MaxInt} {
		for i := range 4 {
			d := good()
			d.Next[i] = to
			wantWrong(t, d)
		}
	}
	for _, tag := range []int{math.MinInt, -3, -2, 200, 201, 1 << 32, math.MaxInt} {
		for i := range 2 {
			d := good()
			d.Tags[i] = tag
			wantWrong(t, d)
		}
	}
	for _, less := range []int{1, 2, 3, 4} {
		d := good()
		d.Next = d.Next[less:]
		wantWrong(t, d)
	}
	d = good()
	d.Next = append(d.Next, -1)
	wantWrong(t, d)
	d.Next = append(d.Next, -1)
	wantWrong(t, d)
	d = good()
	d.Tags = nil
	wantWrong(t, d)
	d.Next = nil
	wantWrong(t, d)
	wantWrong(t, secondOf(257, make([]int, 257), 0))
	for _, many := range []int{1, 256} {
		wantWrong(t, secondOf(many, make([]int, many*(api.MaxDfa+1)), make([]int, api.MaxDfa+1)...))
	}
}

// row answers a machine of so many states, one behind the other by the class 0, by which the last one comes to some state; by others they come to nowhere.
func row(many, classes, last int, tags ...int) api.Dfa {
	d := api.Dfa{Many: classes, Next: slices.Repeat([]int{-1}, many*classes), Tags: tags}
	for i := range many {
		d.Next[i*classes] = i + 1
	}
	d.Next[(many-1)*classes] = last
	return d
}

// tagged answers so many tags, all of them one, but the last one.
func tagged(many, tag, last int) []int {
	l := slices.Repeat([]int{tag}, many)
	l[many-1] = last
	return l
}

// P9.1: states that differ only behind a long row of classes, and states that never do.
func TestLongRows(t *testing.T) {
	for _, many := range []int{2, 3, 4, 10, 63, 64, 65, 1000} {
		// The last state alone has another tag: each one is as many classes away from it as no other one.
		for _, last := range []int{-1, 0, many / 2, many - 1} {
			d := row(many, 1, last, tagged(many, 3, 4)...)
			wantLeast(t, d, d)
			wantAlike(t, d, 0, 1, false)
			wantAlike(t, d, many-2, many-1, false)
			// With no other tag, they differ only if the last one comes to nowhere.
			d = row(many, 1, last, tagged(many, 3, 3)...)
			wantAlike(t, d, 0, 1, last != -1)
			wantAlike(t, d, 0, many-1, last != -1)
			if last == -1 {
				wantLeast(t, d, d)
			} else {
				wantLeast(t, d, secondOf(1, []int{0}, 3))
			}
		}
	}
	// Two rows behind one state, of which the second one has another tag at its end, or has not.
	for _, many := range []int{1, 2, 5, 100, 2000} {
		d := row(2*many+1, 2, -1, tagged(2*many+1, -1, 7)...)
		d.Tags[many] = 7
		d.Next[2*many] = -1
		d.Next[1] = many + 1
		want := row(many+1, 2, -1, tagged(many+1, -1, 7)...)
		want.Next[1] = 1
		wantLeast(t, d, want)
		wantAlike(t, d, 1, many+1, true)
		wantAlike(t, d, many, 2*many, true)
		d.Tags[2*many] = 8
		wantLeast(t, d, interlaced(many))
		wantAlike(t, d, 1, many+1, false)
	}
}

// interlaced answers a state with two rows behind it, of so many states, numbered as they are met.
func interlaced(many int) api.Dfa {
	next, tags := []int{1, 2}, []int{-1}
	for i := range 2 * many {
		next, tags = append(next, i+3, -1), append(tags, -1)
	}
	last := 2 * many
	next[2*last], next[2*last-2] = -1, -1
	tags[last-1], tags[last] = 7, 8
	return secondOf(2, next, tags...)
}

// P9.1: rings, of which those states are alike that are as far from the next other tag.
func TestRings(t *testing.T) {
	for _, many := range []int{1, 2, 6, 12, 60, 600} {
		for period := 1; period <= many; period++ {
			if many%period != 0 {
				continue
			}
			tags := slices.Repeat(tagged(period, 4, 5), many/period)
			d := row(many, 1, 0, tags...)
			wantLeast(t, d, row(period, 1, 0, tags[:period]...))
			wantAlike(t, d, 0, period%many, true)
			if period > 1 {
				wantAlike(t, d, 0, period-1, false)
			}
			wantAlike(t, d, 0, -1, false)
		}
	}
}

// P9.1: states that lead to nothing, and a state 0 that does.
func TestNothing(t *testing.T) {
	// A ring without a tag, a state that leads there, and one that leads nowhere.
	d := secondOf(2, []int{1, 4, 2, 3, 1, -1, -1, 2, 0, 5, -1, -1}, -1, -1, -1, -1, 9, -1)
	wantLeast(t, d, secondOf(2, []int{-1, 1, 0, -1}, -1, 9))
	for a := -1; a < 6; a++ {
		for b := -1; b < 6; b++ {
			wantAlike(t, d, a, b, a == b || a != 0 && b != 0 && a != 4 && b != 4)
		}
	}
	// The state 0 leads to nothing: what has a tag is not come to.
	for _, next := range [][]int{{-1, -1}, {0, 0}, {0, -1}, {-1, 0}, {1, 1}, {1, -1}, {0, 1}, {2, 1}} {
		l := append(slices.Clone(next), 1, 2, -1, 1, 3, 0)
		wantLeast(t, secondOf(2, l, -1, -1, -1, 6), secondOf(2, []int{-1, -1}, -1))
		wantAlike(t, secondOf(2, l, -1, -1, -1, 6), 0, -1, true)
		wantAlike(t, secondOf(2, l, -1, -1, -1, 6), 3, -1, false)
		// A tag of the state 0 itself: it is not alike to nowhere, but what it comes to still is.
		want := secondOf(2, []int{-1, -1}, 6)
		for class := range 2 {
			if next[class] == 0 {
				want.Next[class] = 0
			}
		}
		wantLeast(t, secondOf(2, l, 6, -1, -1, 6), want)
	}
	for _, many := range []int{1, 2, 256} {
		for _, states := range []int{1, 2, 100, api.MaxDfa} {
			none := secondOf(many, slices.Repeat([]int{-1}, many), -1)
			for _, to := range []int{-1, 0, states - 1} {
				wantLeast(t, secondOf(many, slices.Repeat([]int{to}, many*states), slices.Repeat([]int{-1}, states)...), none)
			}
		}
	}
}

// P9.1: states that are not come to, alike to some that are, and not.
func TestNotComeTo(t *testing.T) {
	// 0 and 3 are alike, 1 and 4, and 2 and 5 are not.
	d := secondOf(1, []int{1, 2, -1, 4, 2, 5}, 0, 1, 2, 0, 1, 2)
	wantLeast(t, d, secondOf(1, []int{1, 2, -1}, 0, 1, 2))
	for _, k := range [][2]int{{0, 3}, {1, 4}} {
		wantAlike(t, d, k[0], k[1], true)
	}
	wantAlike(t, d, 2, 5, false)
	// What is not come to leads to what is, and tells it apart from nothing.
	d = secondOf(2, []int{1, 1, 2, 2, -1, 1, 1, 0, 3, 4}, -1, 0, 0, -1, 5)
	wantLeast(t, d, secondOf(2, []int{1, 1, 2, 2, -1, 1}, -1, 0, 0))
	// Numbers of what is not come to are not told: the state 0 alone is come to.
	wantLeast(t, secondOf(1, []int{-1, 0, 1}, 7, 7, 7), secondOf(1, []int{-1}, 7))
	wantLeast(t, secondOf(1, []int{0, 0, 1}, 7, 8, 7), secondOf(1, []int{0}, 7))
}

// P9.1: one class, and 256, of which the last one alone tells states apart, or the first one.
func TestClasses(t *testing.T) {
	for _, many := range []int{1, 2, 255, 256} {
		for _, class := range []int{0, many / 2, many - 1} {
			d := secondOf(many, slices.Repeat([]int{1}, many*3), 1, 2, 2)
			d.Next[many+class] = 0
			wantLeast(t, d, secondOf(many, d.Next[:2*many], 1, 2))
			wantAlike(t, d, 1, 2, false)
			d.Next[2*many+class] = 0
			wantLeast(t, d, secondOf(many, d.Next[:2*many], 1, 2))
			wantAlike(t, d, 1, 2, true)
			d.Next[2*many+class] = -1
			wantAlike(t, d, 1, 2, false)
		}
	}
}

// P9.1: machines of 5000 states, of one class and of 256, of which all are alike, some, or none.
func TestManyStates(t *testing.T) {
	const most = api.MaxDfa
	for _, many := range []int{1, 2, 256} {
		d := row(most, many, -1, tagged(most, -1, 199)...)
		wantLeast(t, d, d)
		wantAlike(t, d, 0, 1, false)
		d = row(most, many, 0, tagged(most, 0, 0)...)
		one := secondOf(many, slices.Repeat([]int{-1}, many), 0)
		one.Next[0] = 0
		wantLeast(t, d, one)
		wantAlike(t, d, 0, most-1, true)
		d = row(most, many, 0, slices.Repeat(tagged(50, 0, 1), most/50)...)
		wantLeast(t, d, row(50, many, 0, tagged(50, 0, 1)...))
		wantAlike(t, d, 17, 4967, true)
		wantAlike(t, d, 17, 4966, false)
	}
	// By each class another state is next: the same one, or not, by the state's last bits.
	d := api.Dfa{Many: 256, Tags: make([]int, most)}
	for i := range most * 256 {
		d.Next = append(d.Next, (i/256*7+i%256*3+1)%most)
	}
	d.Tags[4321] = 1
	got, err := Least(d)
	if err != api.OK || len(got.Tags) != most {
		t.Error(len(got.Tags), err)
	}
	d.Tags[4321] = 0
	wantLeast(t, d, secondOf(256, make([]int, 256), 0))
}

// What is handed in is not changed, and its spare room is neither changed nor looked at; what is handed out is new.
func TestMemory(t *testing.T) {
	next, tags := roomy([]int{1, 3, 2, 3, 1, 3, 2, -1}), roomy([]int{-1, 5, 5, -1})
	d := api.Dfa{Many: 2, Next: next[:8], Tags: tags[:4]}
	before := [][]int{slices.Clone(next), slices.Clone(tags)}
	want := secondOf(2, []int{1, 2, 1, 2, 1, -1}, -1, 5, -1)
	wantLeast(t, d, want)
	first, _ := Least(d)
	second, _ := Least(d)
	fill(first.Next, 77)
	if !slices.Equal(first.Tags, want.Tags) {
		t.Error("two lists of one answer share memory")
	}
	fill(first.Tags, 78)
	if !same(second, want) {
		t.Error("an answer changes with another one:", shown(second))
	}
	wantAlike(t, d, 1, 2, true)
	wantAlike(t, d, 0, 3, false)
	// Of the least machine itself the least one is a new one all the same.
	third, _ := Least(second)
	fill(third.Next, 77)
	fill(third.Tags, 78)
	if !same(second, want) || !slices.Equal(next, before[0]) || !slices.Equal(tags, before[1]) {
		t.Error("what was handed in is changed:", shown(second), next, tags)
	}
}

// roomy answers a list behind which, in its spare room, numbers stand that are none.
func roomy(l []int) []int { return append(slices.Clone(l), -9, 9999) }

// fill puts a number at all places of a list, and of its spare room.
func fill(l []int, with int) {
	l = l[:cap(l)]
	for i := range l {
		l[i] = with
	}
}
