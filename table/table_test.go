package table

import (
	"math"
	"runtime"
	"slices"
	"strconv"
	"strings"
	"testing"

	"franking/api"
)

// classesFrom answers classes of which the bytes that are told are the second, the third one, and so on; all others are the first one.
func classesFrom(l ...byte) api.Classes {
	c := api.Classes{Many: len(l) + 1}
	for i, b := range l {
		c.Of[b] = uint8(i + 1)
	}
	return c
}

// some answers so many classes: the last bytes are all of the last one.
func some(many int) api.Classes {
	c := api.Classes{Many: many}
	for b := range 256 {
		c.Of[b] = uint8(min(b, many-1))
	}
	return c
}

// tableOf answers a table of some classes, of what its states come to, of their tags, and of their names.
func tableOf(c api.Classes, next, tags []int, names ...string) api.Table {
	return api.Table{C: c, D: api.Dfa{Many: c.Many, Next: next, Tags: tags}, Names: names}
}

// good answers a table of three classes (m, n, others) and three states, of two names.
func good() api.Table {
	return tableOf(classesFrom('m', 'n'), []int{0, 1, -1, 2, -1, 0, 1, 1, 2}, []int{-1, 1, 0}, "ab", "c-9")
}

// numbered answers so many names, each another one.
func numbered(many int) []string {
	l := make([]string, many)
	for i := range l {
		l[i] = "n" + strconv.Itoa(i)
	}
	return l
}

// great answers a table of so many classes and states, and of as many names as may be.
func great(many, states int) api.Table {
	next := make([]int, states*many)
	for i := range next {
		next[i] = (i*7+i/many)%(states+1) - 1
	}
	tags := make([]int, states)
	for i := range tags {
		tags[i] = i%(api.MaxNames+1) - 1
	}
	return tableOf(some(many), next, tags, numbered(api.MaxNames)...)
}

// shown answers a table as a text.
func shown(t api.Table) string {
	out := strconv.Itoa(t.C.Many) + " classes:"
	for b, class := range t.C.Of {
		if class > 0 {
			out += " " + strconv.Itoa(b) + "-" + strconv.Itoa(int(class))
		}
	}
	out += "; many " + strconv.Itoa(t.D.Many)
	for i, l := range [][]int{t.D.Next, t.D.Tags} {
		out += []string{"; next", "; tags"}[i]
		for i, n := range l {
			if i > 100 {
				out += " and so on, " + strconv.Itoa(len(l)) + " in all"
				break
			}
			out += " " + strconv.Itoa(n)
		}
	}
	for i, name := range t.Names {
		if i > 300 {
			return out + " and so on, " + strconv.Itoa(len(t.Names)) + " in all"
		}
		out += " " + strconv.Quote(name)
	}
	return out
}

// shownBytes answers bytes as a text.
func shownBytes(b []byte) string {
	if len(b) > 1000 {
		return strconv.Quote(string(b[:1000])) + " and so on, " + strconv.Itoa(len(b)) + " in all"
	}
	return strconv.Quote(string(b))
}

func same(a, b api.Table) bool {
	return a.C == b.C && a.D.Many == b.D.Many && slices.Equal(a.D.Next, b.D.Next) && slices.Equal(a.D.Tags, b.D.Tags) && slices.Equal(a.Names, b.Names)
}

func isNothing(t api.Table) bool { return same(t, api.Table{}) }

// wantBytes holds that a table is right, that its bytes are those, and that these are read as it.
func wantBytes(t testing.TB, x api.Table, want []byte) {
	t.Helper()
	if !Right(x) {
		t.Errorf("%s: not right", shown(x))
	}
	if got, err := Pack(x); err != api.OK || !slices.Equal(got, want) {
		t.Errorf("%s: %d, %s; want %s", shown(x), err, shownBytes(got), shownBytes(want))
	}
	if got, err := Read(want); err != api.OK || !same(got, x) {
		t.Errorf("%s: %d, %s; want %s", shownBytes(want), err, shown(got), shown(x))
	}
}

// wantRight holds that a table is right, that its bytes are as many as the chapter's words tell, and that they are read as it.
func wantRight(t testing.TB, x api.Table) {
	t.Helper()
	b, err := Pack(x)
	many := 3 + 1 + 2 + 1 + len(x.Names) + len(strings.Join(x.Names, "")) + 256 + len(x.D.Tags) + 2*len(x.D.Next)
	if err != api.OK || len(b) != many {
		t.Errorf("%s: %d, %d bytes; want %d", shown(x), err, len(b), many)
	}
	wantBytes(t, x, b)
}

// wantWrong holds that a table is not right, is not packed, and comes from its states to nowhere.
func wantWrong(t testing.TB, x api.Table) {
	t.Helper()
	if Right(x) {
		t.Errorf("%s: right", shown(x))
	}
	if b, err := Pack(x); err != api.ErrTable || len(b) != 0 {
		t.Errorf("%s: %d, %s; want ErrTable, and nothing", shown(x), err, shownBytes(b))
	}
	for _, state := range []int{-1, 0, 1, len(x.D.Tags) - 1, len(x.D.Tags)} {
		for _, b := range []byte{0, 'm', 255} {
			wantStep(t, x, state, b, -1)
		}
	}
}

func wantStep(t testing.TB, x api.Table, state int, b byte, want int) {
	t.Helper()
	if got := Step(x, state, b); got != want {
		t.Errorf("%s: from %d by %d to %d; want %d", shown(x), state, b, got, want)
	}
}

// wantNone holds that bytes are no table's.
func wantNone(t testing.TB, b []byte) {
	t.Helper()
	if x, err := Read(b); err != api.ErrTable || !isNothing(x) {
		t.Errorf("%s: %d, %s; want ErrTable, and nothing", shownBytes(b), err, shown(x))
	}
}

// join answers lists, one behind the other.
func join(l ...[]byte) []byte { return slices.Concat(l...) }

// P10.1, P10.2: the chapter's example.
func TestExample(t *testing.T) {
	x := tableOf(some(1), []int{0}, []int{0}, "a")
	b := join([]byte{70, 84, 1, 0, 0, 1, 1, 1, 97}, make([]byte, 256), []byte{1, 0, 1})
	if len(b) != 268 {
		t.Error(len(b))
	}
	wantBytes(t, x, b)
	wantStep(t, x, 0, 7, 0)
	wantStep(t, x, 1, 7, -1)
	wantNone(t, b[:267])
}

// P10.2: what each of the bytes tells, the order of the numbers, and which of a number's bytes is the higher one.
func TestBytes(t *testing.T) {
	x := good()
	of := make([]byte, 256)
	of['m'], of['n'] = 1, 2
	wantBytes(t, x, join([]byte{70, 84, 1, 2, 0, 3, 2, 2, 'a', 'b', 3, 'c', '-', '9'}, of, []byte{0, 2, 1},
		[]byte{0, 1, 0, 2, 0, 0}, []byte{0, 3, 0, 0, 0, 1}, []byte{0, 2, 0, 2, 0, 3}))
	// 258 states and 255: both bytes of a number are of use.
	tags := slices.Repeat([]int{-1}, 258)
	tags[257] = 0
	next := slices.Repeat([]int{-1}, 258)
	next[0], next[1], next[257] = 257, 254, 255
	wantBytes(t, tableOf(some(1), next, tags, "z"), join([]byte{70, 84, 1, 0, 1, 2, 1, 1, 'z'}, make([]byte, 256), make([]byte, 257), []byte{1},
		[]byte{1, 2, 0, 255}, make([]byte, 2*255), []byte{1, 0}))
}

// P10.1: where states come to, by the class of each byte.
func TestStep(t *testing.T) {
	x := good()
	for b := range 256 {
		class := int(x.C.Of[b])
		for state := range 3 {
			wantStep(t, x, state, byte(b), x.D.Next[state*3+class])
		}
		for _, state := range []int{math.MinInt, -1 << 32, -4, -3, -2, -1, 3, 4, 9, 1 << 32, math.MaxInt / 3, math.MaxInt} {
			wantStep(t, x, state, byte(b), -1)
		}
	}
	wantStep(t, x, 0, 'n', -1)
	wantStep(t, x, 2, 'n', 2)
	wantStep(t, x, 1, 'a', 2)
	// The last state of as many as may be, and the one behind it.
	x = great(2, api.MaxDfa)
	for _, state := range []int{0, 1, 4998, 4999} {
		wantStep(t, x, state, 0, x.D.Next[2*state])
		wantStep(t, x, state, 255, x.D.Next[2*state+1])
	}
	for _, state := range []int{-1, 5000, 5001} {
		wantStep(t, x, state, 0, -1)
		wantStep(t, x, state, 255, -1)
	}
	// Of 256 classes: each byte's own.
	x = great(256, 3)
	for b := range 256 {
		wantStep(t, x, 1, byte(b), x.D.Next[256+b])
	}
}

// P10.1, P10.2: classes that are not right, each by one thing.
func TestWrongClasses(t *testing.T) {
	wantRight(t, good())
	for _, many := range []int{math.MinInt, -3, -1, 0, 1, 2, 4, 255, 256, 257, 259, 1 << 32, math.MaxInt} {
		x := good()
		x.C.Many = many
		wantWrong(t, x)
	}
	for _, k := range []struct{ b, class byte }{{'m', 0}, {'m', 2}, {'m', 3}, {'n', 0}, {'n', 1}, {'n', 3}, {'n', 255}, {0, 1}, {0, 2}, {'a', 2}, {255, 3}, {255, 255}} {
		x := good()
		x.C.Of[k.b] = k.class
		wantWrong(t, x)
	}
	for _, k := range []struct{ b, class byte }{{'m' + 2, 1}, {'m' + 2, 2}, {255, 1}, {255, 2}, {'a', 1}} {
		x := good()
		x.C.Of[k.b] = k.class
		wantRight(t, x)
	}
}

// P10.1, P10.2: machines that are not right, each by one thing.
func TestWrongMachine(t *testing.T) {
	wantWrong(t, api.Table{})
	for _, many := range []int{math.MinInt, -3, -1, 0, 1, 2, 4, 9, 256, 257, 259, 1 << 32, math.MaxInt} {
		x := good()
		x.D.Many = many
		wantWrong(t, x)
	}
	for i := range 9 {
		for _, to := range []int{math.MinInt, -65537, -3, -2, 3, 4, 5000, 65535, 1 << 32, math.MaxInt} {
			x := good()
			x.D.Next[i] = to
			wantWrong(t, x)
		}
		for _, to := range []int{-1, 0, 1, 2} {
			x := good()
			x.D.Next[i] = to
			wantRight(t, x)
		}
	}
	for _, turn := range []func(x *api.Table){
		func(x *api.Table) { x.D.Next = nil },
		func(x *api.Table) { x.D.Next = x.D.Next[:8] },
		func(x *api.Table) { x.D.Next = x.D.Next[:6] },
		func(x *api.Table) { x.D.Next = append(x.D.Next, -1) },
		func(x *api.Table) { x.D.Next = append(x.D.Next, -1, -1, -1) },
		func(x *api.Table) { x.D.Tags = nil },
		func(x *api.Table) { x.D.Tags = x.D.Tags[:2] },
		func(x *api.Table) { x.D.Tags = append(x.D.Tags, 0) },
		func(x *api.Table) { x.D.Next, x.D.Tags = nil, nil },
	} {
		x := good()
		turn(&x)
		wantWrong(t, x)
	}
	// States that stand behind the last one that may be.
	for _, many := range []int{1, 256} {
		wantRight(t, tableOf(some(many), make([]int, many*api.MaxDfa), make([]int, api.MaxDfa), "a"))
		wantWrong(t, tableOf(some(many), make([]int, many*(api.MaxDfa+1)), make([]int, api.MaxDfa+1), "a"))
	}
}

// P10.1, P10.2: classes and a machine, each of them right, that are not of the same Many.
func TestOtherMany(t *testing.T) {
	for _, a := range []int{1, 2, 3, 255, 256} {
		for _, b := range []int{1, 2, 3, 255, 256} {
			x := tableOf(some(a), make([]int, b), []int{0}, "a")
			x.D.Many = b
			if a == b {
				wantRight(t, x)
			} else {
				wantWrong(t, x)
			}
		}
	}
}

// P10.1, P10.2: tags that no name is there for.
func TestTags(t *testing.T) {
	for _, names := range []int{1, 2, 3, 199, 200} {
		for i := range 3 {
			for _, tag := range []int{math.MinInt, -257, -3, -2, -1, 0, 1, 2, 3, 198, 199, 200, 201, 255, 256, 1 << 32, math.MaxInt} {
				x := good()
				x.D.Tags = []int{-1, 0, 0}
				x.D.Tags[i] = tag
				x.Names = numbered(names)
				if tag >= -1 && tag < names {
					wantRight(t, x)
				} else {
					wantWrong(t, x)
				}
			}
		}
	}
	// No state has a tag; a name is there all the same.
	wantRight(t, tableOf(some(1), []int{0}, []int{-1}, "a"))
	wantWrong(t, tableOf(some(1), []int{0}, []int{-1}))
}

// P10.1, P10.2: how many names there are.
func TestManyNames(t *testing.T) {
	for _, many := range []int{0, 1, 2, 3, 199, 200, 201, 255, 256, 257, 512, 513, 70000} {
		x := tableOf(some(1), []int{0}, []int{-1}, numbered(many)...)
		if many >= 1 && many <= 200 {
			wantRight(t, x)
		} else {
			wantWrong(t, x)
		}
	}
	wantWrong(t, tableOf(some(1), []int{0}, []int{-1}, []string{}...))
	wantWrong(t, tableOf(some(1), []int{0}, []int{-1}, slices.Repeat([]string{"a"}, 201)...))
	// 200 names of 64 bytes.
	l := numbered(200)
	for i := range l {
		l[i] += strings.Repeat("-", 64-len(l[i]))
	}
	wantRight(t, tableOf(some(1), []int{0}, []int{199}, l...))
	l[199] += "-"
	wantWrong(t, tableOf(some(1), []int{0}, []int{199}, l...))
}

// P10.1, P10.2: what is a name, at each place among names.
func TestNames(t *testing.T) {
	right := []string{"x", "z", "xy", "x-", "x--y", "x9", "x09-", "aaz", strings.Repeat("x", 63), strings.Repeat("x", 64), "q" + strings.Repeat("0", 63), "q" + strings.Repeat("-", 63)}
	wrong := []string{"", "-", "0", "9", "-x", "0x", "9x", "X", "Z", "Xx", "xX", "xxZ", " ", "x ", " x", "x y", "x\x00", "\x00", "x_", "x.", "x/", "x:", "x@", "x[", "x`", "`", "{", "x{", "x\x80", "\x80", "\xff", "x\xff", "é", "xé", "x\n", "x\r\n",
		strings.Repeat("x", 65), strings.Repeat("x", 66), strings.Repeat("x", 128), strings.Repeat("x", 255), strings.Repeat("x", 256), strings.Repeat("x", 257), strings.Repeat("x", 320), strings.Repeat("x", 100000), strings.Repeat("x", 64) + "X", strings.Repeat("x", 63) + "X", "q" + strings.Repeat("-", 64), strings.Repeat("x", 63) + " "}
	among := func(i int, name string) api.Table {
		x := good()
		x.Names = []string{"ab", "c-9", "d"}
		x.Names[i] = name
		return x
	}
	for i := range 3 {
		for _, name := range right {
			wantRight(t, among(i, name))
		}
		for _, name := range wrong {
			wantWrong(t, among(i, name))
		}
	}
	// Each byte in front, in the midst, and at the end.
	for b := range 256 {
		small := b >= 'a' && b <= 'z'
		for i, name := range []string{string([]byte{byte(b)}), string([]byte{byte(b), 'a', 'c'}), string([]byte{'q', byte(b), 'q'}), string([]byte{'q', byte(b)})} {
			x := tableOf(some(1), []int{0}, []int{0}, name)
			if small || i > 1 && (b >= '0' && b <= '9' || b == '-') {
				wantRight(t, x)
			} else {
				wantWrong(t, x)
			}
		}
	}
}

// P10.1, P10.2: a name that is there twice, wherever.
func TestNamesTwice(t *testing.T) {
	for _, many := range []int{2, 3, 4, 200} {
		for _, i := range []int{0, 1, many / 2, many - 1} {
			for _, j := range []int{0, 1, many / 2, many - 1} {
				x := tableOf(some(1), []int{0}, []int{0}, numbered(many)...)
				x.Names[j] = x.Names[i]
				if i == j {
					wantRight(t, x)
				} else {
					wantWrong(t, x)
				}
			}
		}
	}
	// Some that are nearly the same: of the same bytes, or one being the other one's beginning.
	near := strings.Repeat("x", 63)
	wantRight(t, tableOf(some(1), []int{0}, []int{0}, "ab", "ba", "a", "b", "aba", "ab-", "ab--", near, near+"x", near+"y"))
}

// P10.2: bytes with another beginning, one that is cut off, and more of them.
func TestBeginning(t *testing.T) {
	for _, x := range []api.Table{good(), tableOf(some(1), []int{0}, []int{0}, "a")} {
		b, _ := Pack(x)
		for i := range 3 {
			for other := range 256 {
				l := slices.Clone(b)
				l[i] = byte(other)
				if byte(other) == b[i] {
					wantBytes(t, x, l)
				} else {
					wantNone(t, l)
				}
			}
		}
		wantNone(t, nil)
		wantNone(t, []byte{})
		wantNone(t, []byte{70})
		wantNone(t, []byte{70, 84})
		wantNone(t, []byte{70, 84, 1})
		wantNone(t, b[1:])
		wantNone(t, b[3:])
		wantNone(t, join([]byte{0}, b))
		wantNone(t, join([]byte{70, 84, 1}, b))
		wantNone(t, join(b, b))
	}
}

// P10.2, P10.3: bytes cut off at each place, and with bytes more.
func TestCut(t *testing.T) {
	for _, x := range []api.Table{good(), tableOf(some(1), []int{0}, []int{0}, "a"), great(3, 2), great(1, 300), great(256, 1), tableOf(some(1), []int{-1}, []int{-1}, "a", "ab", "abc")} {
		b, _ := Pack(x)
		for many := range b {
			// Behind what is cut off there is room that has the rest: it is not looked at.
			wantNone(t, b[:many])
		}
		for _, more := range [][]byte{{0}, {1}, {255}, {0, 0}, {0, 1}, {70, 84, 1}, make([]byte, 256), make([]byte, 1000), b[:1], b[:len(b)-1]} {
			wantNone(t, join(b, more))
		}
		wantBytes(t, x, b)
	}
	b, _ := Pack(great(256, api.MaxDfa))
	for _, many := range []int{1, 2, 3, 255, 256, 511, 512, 513, len(b) / 2, len(b) - 1000} {
		wantNone(t, b[:len(b)-many])
	}
	wantNone(t, join(b, []byte{0}))
	wantNone(t, join(b, []byte{0, 1}))
}

// spots answers where in the bytes of good each kind of number stands.
func spots() (names, of, tags, next int) { return 7, 14, 270, 273 }

// P10.2: each number of the bytes at its least and at its greatest, and beyond what may be.
func TestNumbers(t *testing.T) {
	names, of, tags, next := spots()
	for _, k := range []struct {
		at    int
		right []byte // what may stand there
		what  string
	}{
		{3, []byte{2}, "classes less one"}, {4, []byte{0}, "states, the higher byte"}, {5, []byte{3}, "states"}, {6, []byte{2}, "names"},
		{names, []byte{2}, "the first name's bytes"}, {names + 3, []byte{3}, "the second one's"},
		{of, []byte{0}, "the byte 0's class"}, {of + 'a', []byte{0, 1}, "that of a"}, {of + 'm', []byte{1}, "that of m"}, {of + 'n', []byte{2}, "that of n"}, {of + 'o', []byte{0, 1, 2}, "that of o"}, {of + 255, []byte{0, 1, 2}, "that of 255"},
		{tags, []byte{0, 1, 2}, "the state 0's tag"}, {tags + 2, []byte{0, 1, 2}, "the last state's tag"},
		{next, []byte{0}, "the first state, the higher byte"}, {next + 1, []byte{0, 1, 2, 3}, "the first state"}, {next + 16, []byte{0}, "the last one, the higher byte"}, {next + 17, []byte{0, 1, 2, 3}, "the last one"},
	} {
		for other := range 256 {
			b, _ := Pack(good())
			b[k.at] = byte(other)
			x, err := Read(b)
			if !slices.Contains(k.right, byte(other)) {
				wantNone(t, b)
			} else if again, _ := Pack(x); err != api.OK || !slices.Equal(again, b) {
				t.Errorf("%s %d: %d, %s", k.what, other, err, shown(x))
			}
		}
	}
	b, _ := Pack(good())
	b[of+'o'], b[tags], b[tags+2], b[next+1], b[next+17] = 2, 2, 0, 3, 0
	want := good()
	want.C.Of['o'], want.D.Tags, want.D.Next[0], want.D.Next[8] = 2, []int{1, 1, -1}, 2, -1
	wantBytes(t, want, b)
}

// P10.2: how many there are of something is another number, and all that it asks for is there.
func TestManyTold(t *testing.T) {
	header := func(many, states, names int) []byte {
		return []byte{70, 84, 1, byte(many - 1), byte(states >> 8), byte(states), byte(names)}
	}
	classes := func(many int) []byte {
		c := some(many)
		return c.Of[:]
	}
	// States: none, one, the most, and more, with as many numbers as they ask for.
	for _, states := range []int{0, 1, 2, 255, 256, 4999, 5000, 5001, 32768, 65535} {
		b := join(header(1, states, 1), []byte{1, 'a'}, classes(1), make([]byte, states), make([]byte, 2*states))
		if states < 1 || states > 5000 {
			wantNone(t, b)
			continue
		}
		wantBytes(t, tableOf(some(1), slices.Repeat([]int{-1}, states), slices.Repeat([]int{-1}, states), "a"), b)
	}
	// Names: none, one, the most, and more.
	for _, names := range []int{0, 1, 2, 199, 200, 201, 255} {
		b := header(1, 1, names)
		for _, name := range numbered(names) {
			b = join(b, []byte{byte(len(name))}, []byte(name))
		}
		b = join(b, classes(1), []byte{0, 0, 0})
		if names < 1 || names > 200 {
			wantNone(t, b)
			continue
		}
		wantBytes(t, tableOf(some(1), []int{-1}, []int{-1}, numbered(names)...), b)
	}
	// A name's bytes: none, one, the most, and more.
	for many := range 256 {
		name := strings.Repeat("x", many)
		b := join(header(1, 1, 1), []byte{byte(many)}, []byte(name), classes(1), []byte{0, 0, 0})
		if many < 1 || many > 64 {
			wantNone(t, b)
			continue
		}
		wantBytes(t, tableOf(some(1), []int{-1}, []int{-1}, name), b)
	}
	// Classes: each of their numbers, beside classes that are one more, as many, or one fewer.
	for many := 1; many <= 256; many++ {
		for _, other := range []int{many - 1, many, many + 1} {
			b := join(header(many, 1, 1), []byte{1, 'a'}, classes(max(1, min(other, 256))), make([]byte, 1+2*many))
			if max(1, min(other, 256)) != many {
				wantNone(t, b)
				continue
			}
			wantBytes(t, tableOf(some(many), slices.Repeat([]int{-1}, many), []int{-1}, "a"), b)
		}
	}
}

// P10.2: a few bytes that tell of a great many states, classes and names, ask for no more memory than they are.
func TestFewBytes(t *testing.T) {
	for _, b := range [][]byte{
		{70, 84, 1, 255, 255, 255, 255},
		join([]byte{70, 84, 1, 255, 255, 255, 1, 1, 'a'}, make([]byte, 256)),
		join([]byte{70, 84, 1, 255, 255, 255, 1, 1, 'a'}, make([]byte, 256), make([]byte, 65535)),
	} {
		wantNone(t, b)
		var before, behind runtime.MemStats
		runtime.ReadMemStats(&before)
		Read(b)
		runtime.ReadMemStats(&behind)
		room := behind.TotalAlloc - before.TotalAlloc
		if room > 10*uint64(len(b))+100000 {
			t.Errorf("%d bytes ask for %d", len(b), room)
		}
	}
}

// P10.1, P10.2: as many states and classes as may be, and as few.
func TestGreat(t *testing.T) {
	for _, many := range []int{1, 2, 255, 256} {
		for _, states := range []int{1, 2, 255, 256, 257, 4999, 5000} {
			x := great(many, states)
			wantRight(t, x)
			last := states*many - 1
			x.D.Next[last] = states - 1
			wantRight(t, x)
			wantStep(t, x, states-1, 255, states-1)
			x.D.Next[last] = -1
			wantRight(t, x)
			wantStep(t, x, states-1, 255, -1)
			x.D.Next[last] = states
			wantWrong(t, x)
		}
	}
	x := great(256, api.MaxDfa)
	b, _ := Pack(x)
	for _, to := range []int{0, 5000, 5001, 65535} {
		b[len(b)-2], b[len(b)-1] = byte(to>>8), byte(to)
		x.D.Next[len(x.D.Next)-1] = to - 1
		if to <= 5000 {
			wantBytes(t, x, b)
		} else {
			wantNone(t, b)
		}
	}
}

// What is handed in is not changed, and its spare room is neither changed nor looked at; what is handed out is new.
func TestMemoryOfPack(t *testing.T) {
	x := good()
	x.D.Next, x.D.Tags, x.Names = roomy(x.D.Next, -9, 99), roomy(x.D.Tags, -9, 99), roomy(x.Names, "", "X")
	first, _ := Pack(x)
	second, _ := Pack(x)
	fill(first, 77)
	want, _ := Pack(good())
	if !slices.Equal(second, want) {
		t.Error("an answer changes with another one")
	}
	if !same(x, good()) || !slices.Equal(x.D.Next[9:11], []int{-9, 99}) || !slices.Equal(x.D.Tags[3:5], []int{-9, 99}) || !slices.Equal(x.Names[2:4], []string{"", "X"}) {
		t.Error("what was handed in is changed:", shown(x))
	}
	wantStep(t, x, 0, 'm', 1)
	Right(x)
	wantBytes(t, x, want)
}

func TestMemoryOfRead(t *testing.T) {
	packed, _ := Pack(good())
	b := roomy(packed, 1, 2)
	before := slices.Clone(b[:len(b)+2])
	first, _ := Read(b)
	second, _ := Read(b)
	third, _ := Read(b)
	if !slices.Equal(b[:len(b)+2], before) {
		t.Error("what was handed in is changed")
	}
	fill(b, 'q')
	if !same(first, good()) {
		t.Error("what was handed in is kept:", shown(first))
	}
	fill(first.D.Next, 77)
	if !slices.Equal(first.D.Tags, good().D.Tags) || !slices.Equal(first.Names, good().Names) {
		t.Error("two lists of one answer share memory")
	}
	fill(second.D.Tags, 78)
	if !slices.Equal(second.D.Next, good().D.Next) || !slices.Equal(second.Names, good().Names) {
		t.Error("two lists of one answer share memory")
	}
	fill(first.Names, "q")
	if !same(third, good()) {
		t.Error("an answer changes with another one:", shown(third))
	}
}

// roomy answers a list behind which, in its spare room, some things stand that are none of it.
func roomy[T any](l []T, more ...T) []T { return append(slices.Clone(l), more...)[:len(l)] }

// fill puts something at all places of a list, and of its spare room.
func fill[T any](l []T, with T) {
	l = l[:cap(l)]
	for i := range l {
		l[i] = with
	}
}
