package classes

import (
	"math"
	"reflect"
	"slices"
	"strconv"
	"strings"
	"testing"

	"franking/api"
)

// Regular trees as the chapter of layer 4 writes them. re answers one of some kids, set one of the bytes that are told.

func re(kind uint8, kids ...api.Re) api.Re { return api.Re{Kind: kind, Kids: kids} }

func cat(kids ...api.Re) api.Re { return re(api.ReCat, kids...) }

func alt(kids ...api.Re) api.Re { return re(api.ReAlt, kids...) }

func star(kid api.Re) api.Re { return re(api.ReStar, kid) }

func set(in string) api.Re { return api.Re{Kind: api.ReSet, Set: setOf(in)} }

// empty is the regular tree of nothing.
var empty = api.Re{}

// setOf answers the set of the bytes that are told.
func setOf(in string) api.Set {
	var s api.Set
	for i := range len(in) {
		s[in[i]/64] |= 1 << (in[i] % 64)
	}
	return s
}

// bytesFrom answers all bytes from one to another one.
func bytesFrom(lo, hi int) string {
	var out []byte
	for b := lo; b <= hi; b++ {
		out = append(out, byte(b))
	}
	return string(out)
}

// classesOf answers classes of which the bytes that are told are, and all others are of class 0.
func classesOf(many int, in map[uint8]string) api.Classes {
	c := api.Classes{Many: many}
	for class, s := range in {
		for i := range len(s) {
			c.Of[s[i]] = class
		}
	}
	return c
}

// alone answers the classes of which each byte is one.
func alone() api.Classes {
	c := api.Classes{Many: 256}
	for b := range 256 {
		c.Of[b] = uint8(b)
	}
	return c
}

// shown answers classes as a text: of each one the bytes.
func shown(c api.Classes) string {
	out := strconv.Itoa(c.Many)
	for class := range 256 {
		var in []byte
		for b := range 256 {
			if int(c.Of[b]) == class {
				in = append(in, byte(b))
			}
		}
		if len(in) > 0 {
			out += " " + strconv.Itoa(class) + ":" + strconv.Quote(string(in))
		}
	}
	return out
}

// wantParts holds that the classes of some trees are those of which the bytes are told, rising, and one of all other bytes, if there are any.
func wantParts(t *testing.T, l []api.Re, parts ...string) {
	t.Helper()
	told := ""
	for _, part := range parts {
		told += part
	}
	rest := ""
	for b := range 256 {
		if strings.IndexByte(told, byte(b)) < 0 {
			rest += bytesFrom(b, b)
		}
	}
	if rest != "" {
		parts = append(parts, rest)
	}
	// The bytes of each part are told as they rise, so that the parts' order is that of their least bytes.
	slices.Sort(parts)
	want := api.Classes{Many: len(parts)}
	for class, part := range parts {
		for i := range len(part) {
			want.Of[part[i]] = uint8(class)
		}
	}
	wantOf(t, l, want)
	for class, part := range parts {
		if b, ok := First(want, class); b != part[0] || !ok {
			t.Errorf("First of %d of %s: %d, %v", class, shown(want), b, ok)
		}
	}
}

func wantOf(t *testing.T, l []api.Re, want api.Classes) {
	t.Helper()
	got, err := Of(l)
	if err != api.OK || got != want {
		t.Errorf("of %d trees: %s, %d; want %s", len(l), shown(got), err, shown(want))
	}
	if !Right(got) {
		t.Errorf("of %d trees: classes that are not right: %s", len(l), shown(got))
	}
}

func wantArg(t testing.TB, l ...api.Re) {
	t.Helper()
	if got, err := Of(l); err != api.ErrArg || got != (api.Classes{}) {
		t.Errorf("of %d trees: %s, %d; want nothing, ErrArg", len(l), shown(got), err)
	}
}

// P6.1, P6.2: the chapter's examples.
func TestExamples(t *testing.T) {
	none, err := Of(nil)
	if b, ok := First(none, 0); err != api.OK || none != (api.Classes{Many: 1}) || b != 0 || !ok {
		t.Error("no trees:", shown(none), err, b, ok)
	}
	c, err := Of([]api.Re{set("b"), set("ab")})
	if err != api.OK || c != classesOf(3, map[uint8]string{1: "a", 2: "b"}) {
		t.Error("b, and a and b:", shown(c), err)
	}
	if b, ok := First(c, 2); b != 'b' || !ok {
		t.Error("First of 2:", b, ok)
	}
	if !Fits(c, setOf("ab")) || Fits(c, setOf("bc")) {
		t.Error("Fits:", Fits(c, setOf("ab")), Fits(c, setOf("bc")))
	}
}

// P6.1: no trees, one, and many; each kind of tree, and sets within what is within others.
func TestTrees(t *testing.T) {
	wantParts(t, nil)
	wantParts(t, []api.Re{})
	wantParts(t, []api.Re{empty})
	wantParts(t, []api.Re{empty, star(empty), cat(empty, empty), alt(empty, star(empty), empty)})
	for _, r := range []api.Re{
		set("az"), star(set("az")), star(star(star(set("az")))),
		cat(set("az"), empty), cat(empty, set("az")), cat(empty, empty, set("az"), empty), cat(set("az"), set("az")),
		alt(set("az"), empty), alt(empty, set("az")), alt(empty, empty, set("az"), empty), alt(set("az"), set("az")),
		cat(empty, alt(empty, star(cat(star(alt(set("az"), empty)), empty)))),
	} {
		wantParts(t, []api.Re{r}, "az")
		wantParts(t, []api.Re{r, r}, "az")
		wantParts(t, []api.Re{r, set("b")}, "az", "b")
		wantParts(t, []api.Re{set("b"), empty, r}, "az", "b")
		wantParts(t, []api.Re{set("b"), r, set("a"), empty}, "a", "b", "z")
		wantParts(t, []api.Re{star(cat(set("ab"), r))}, "a", "b", "z")
		wantParts(t, []api.Re{alt(cat(r, star(set("ab"))), set("z\xff"))}, "a", "b", "z", "\xff")
	}
	wantParts(t, []api.Re{alt(cat(set("ab"), set("bc")), star(set("cd")), set("de"))}, "a", "b", "c", "d", "e")
	wantParts(t, []api.Re{set("ab"), set("bc"), set("cd"), set("de")}, "a", "b", "c", "d", "e")
	wantParts(t, []api.Re{set("cdef"), set("ghij")}, "cdef", "ghij")
	wantParts(t, []api.Re{set("cdef"), set("efgh")}, "cd", "ef", "gh")
	wantParts(t, []api.Re{set("cdefgh"), set("fe")}, "cdgh", "ef")
}

// P6.1: which sets are told apart at all words' edges; classes are numbered as their first bytes rise, whichever set is the first.
func TestNumbers(t *testing.T) {
	wantOf(t, []api.Re{set("\x00")}, classesOf(2, map[uint8]string{1: bytesFrom(1, 255)}))
	wantOf(t, []api.Re{set("\xff")}, classesOf(2, map[uint8]string{1: "\xff"}))
	wantOf(t, []api.Re{set(bytesFrom(1, 255))}, classesOf(2, map[uint8]string{1: bytesFrom(1, 255)}))
	wantOf(t, []api.Re{set(bytesFrom(0, 254))}, classesOf(2, map[uint8]string{1: "\xff"}))
	z := classesOf(4, map[uint8]string{1: "\x40", 2: "\x7f\x80", 3: "\xbf\xc0"})
	wantOf(t, []api.Re{set("\xbf\xc0"), set("\x7f\x80"), set("\x40")}, z)
	wantOf(t, []api.Re{set("\x40"), set("\x7f\x80\xbf\xc0"), set("\x40\xbf\xc0")}, z)
	for _, edge := range []int{1, 63, 64, 65, 127, 128, 129, 191, 192, 193, 255} {
		low, high := bytesFrom(0, edge-1), bytesFrom(edge, 255)
		wantOf(t, []api.Re{set(low)}, classesOf(2, map[uint8]string{1: high}))
		wantOf(t, []api.Re{set(high)}, classesOf(2, map[uint8]string{1: high}))
	}
}

// P6.1: sets that are full, and those of one byte.
func TestSets(t *testing.T) {
	all := bytesFrom(0, 255)
	wantParts(t, []api.Re{set(all)})
	wantParts(t, []api.Re{set(all), star(set(all))})
	wantParts(t, []api.Re{set("x"), set(all), set("y")}, "x", "y")
	for b := range 256 {
		one := bytesFrom(b, b)
		wantParts(t, []api.Re{set(one)}, one)
		wantParts(t, []api.Re{alt(set(all), set(one))}, one)
		wantParts(t, []api.Re{set(all[:b] + all[b+1:])}, one)
	}
}

// setsOfBytes answers a set of each number below a bound: of the bytes that are told to be in it.
func setsOfBytes(many int, in func(i, b int) bool) []api.Re {
	var l []api.Re
	for i := range many {
		s := ""
		for b := range 256 {
			if in(i, b) {
				s += bytesFrom(b, b)
			}
		}
		l = append(l, set(s))
	}
	return l
}

// P6.1: as many sets as make 256 classes, or not quite.
func TestManyClasses(t *testing.T) {
	ones := setsOfBytes(256, func(i, b int) bool { return b == i })
	ups := setsOfBytes(256, func(i, b int) bool { return b <= i })
	bits := setsOfBytes(8, func(i, b int) bool { return b>>i&1 == 1 })
	pairs := setsOfBytes(128, func(i, b int) bool { return b/2 == i })
	each := func(class func(b int) int) api.Classes {
		var c api.Classes
		for b := range 256 {
			c.Of[b] = uint8(class(b))
			c.Many = max(c.Many, class(b)+1)
		}
		return c
	}
	lastTwo := each(func(b int) int { return min(b, 254) })
	firstTwo := each(func(b int) int { return max(b-1, 0) })
	for _, x := range []struct {
		l    []api.Re
		want api.Classes
	}{
		{ones, alone()}, {ones[1:], alone()}, {ones[:255], alone()}, {ups, alone()}, {ups[:255], alone()}, {bits, alone()},
		{slices.Concat(pairs, bits[:1]), alone()}, {slices.Concat(ones, ups, bits, pairs), alone()},
		{ones[:254], lastTwo}, {ups[:254], lastTwo}, {ones[2:], firstTwo}, {ups[1:], firstTwo},
		{pairs, each(func(b int) int { return b / 2 })}, {bits[1:], each(func(b int) int { return b / 2 })},
		{bits[:7], each(func(b int) int { return b % 128 })}, {bits[4:], each(func(b int) int { return b / 16 })},
	} {
		back := slices.Clone(x.l)
		slices.Reverse(back)
		for _, l := range [][]api.Re{x.l, back} {
			wantOf(t, l, x.want)
			wantOf(t, []api.Re{alt(l...)}, x.want)
			wantOf(t, []api.Re{empty, star(cat(l...)), set(bytesFrom(0, 255))}, x.want)
		}
	}
}

// wrongTrees answers regular trees that are not right, of each kind.
func wrongTrees() []api.Re {
	x := set("x")
	var l []api.Re
	for _, kind := range []uint8{api.ReNone, api.ReCat, api.ReAlt, api.ReStar} {
		l = append(l, api.Re{Kind: kind, Set: x.Set}, api.Re{Kind: kind, Set: x.Set, Kids: []api.Re{x}}, api.Re{Kind: kind, Set: x.Set, Kids: []api.Re{x, x}})
	}
	l = append(l, api.Re{Kind: api.ReSet}, api.Re{Kind: api.ReSet, Set: x.Set, Kids: []api.Re{x}}, api.Re{Kind: api.ReSet, Set: x.Set, Kids: []api.Re{set("y"), star(set("z"))}})
	l = append(l, re(api.ReNone, x), re(api.ReNone, x, x), re(api.ReSet, x), cat(), cat(x), alt(), alt(x), re(api.ReStar), re(api.ReStar, x, x))
	return append(l, re(5), re(5, x), re(5, x, x), api.Re{Kind: 5, Set: x.Set}, re(255, x))
}

// P6.1: one tree that is not right, wherever it stands, is enough.
func TestWrongTrees(t *testing.T) {
	x, y := set("x"), set("xy")
	for _, wrong := range wrongTrees() {
		for _, r := range []api.Re{wrong, star(wrong), cat(wrong, x), cat(x, y, wrong), alt(x, wrong, y), alt(star(star(wrong)), x), cat(x, alt(y, cat(x, wrong)))} {
			wantArg(t, r)
			wantArg(t, r, x, y)
			wantArg(t, x, r, y)
			wantArg(t, x, y, r)
			wantArg(t, r, r)
			wantArg(t, append(slices.Repeat([]api.Re{x, y}, 300), r)...)
		}
	}
}

// wrongClasses answers classes that are not right, in each way that there is.
func wrongClasses() []api.Classes {
	of := func(many int, texts ...string) api.Classes {
		in := map[uint8]string{}
		for i, s := range texts {
			in[uint8(i+1)] = s
		}
		return classesOf(many, in)
	}
	l := []api.Classes{{}, {Many: -1}, {Many: 2}, {Many: 255}, {Many: 256}, {Many: 257}, {Many: math.MinInt}, {Many: math.MaxInt}, {Many: 1 << 32}, {Many: 1<<32 + 1}}
	for _, many := range []int{math.MinInt, -255, -1, 0, 1, 3, 4, 255, 256, 257, 258, 512, math.MaxInt} {
		l = append(l, of(many, "a"), of(many, "\xff"), of(many, bytesFrom(1, 255)), of(many, bytesFrom(64, 191)))
	}
	// Numbers that are not below Many, or of which there is no byte.
	l = append(l, of(2, "", "a"), of(3, "", "a"), of(4, "a", "", "b"), of(3, "a", "", "b"), of(3, "a", "b", "c"), of(2, "a", "b"), of(5, "a", "b", "c"))
	l = append(l, classesOf(2, map[uint8]string{255: "a"}), classesOf(256, map[uint8]string{255: "a"}), classesOf(256, map[uint8]string{255: "\xff"}), classesOf(1, map[uint8]string{1: bytesFrom(0, 255)}), classesOf(2, map[uint8]string{1: bytesFrom(0, 255)}))
	// First bytes that do not rise.
	l = append(l, of(2, "\x00"), of(2, bytesFrom(0, 254)), of(3, "b", "a"), of(3, "b", "ac"), of(3, "\xff", "\xfe"), of(4, "a", "c", "b"), of(4, "b", "a", "c"), of(4, "c", "b", "a"))
	for _, many := range []int{0, 1, 255, 257, 258, 512, -256} {
		c := alone()
		c.Many = many
		l = append(l, c)
	}
	for _, b := range []int{0, 1, 127, 254} {
		c := alone()
		c.Of[b], c.Of[b+1] = c.Of[b+1], c.Of[b]
		l = append(l, c)
		c = alone()
		c.Of[b] = 255
		l = append(l, c)
	}
	for _, b := range []int{1, 128, 255} {
		c := alone()
		c.Of[b] = 0
		l = append(l, c)
	}
	return l
}

// P6.2: of classes that are not right, nothing is told.
func TestWrongClasses(t *testing.T) {
	for i, c := range wrongClasses() {
		if Right(c) {
			t.Error(i, "is right:", shown(c))
		}
		for _, class := range []int{math.MinInt, -1, 0, 1, 2, 254, 255, 256, c.Many - 1, c.Many, c.Many + 1, math.MaxInt} {
			if b, ok := First(c, class); b != 0 || ok {
				t.Error(i, "has a first byte of", class, shown(c), b, ok)
			}
		}
		for _, s := range []api.Set{{}, setOf(bytesFrom(0, 255)), setOf("a"), setOf("\x00"), setOf("\xff"), setOf("ab")} {
			if Fits(c, s) {
				t.Error(i, "is fit:", shown(c))
			}
		}
	}
}

// P6.2: classes that are right, and their first bytes: of a class below 0, and from Many on, there is none.
func TestFirst(t *testing.T) {
	for _, x := range []struct {
		c      api.Classes
		firsts string
	}{
		{api.Classes{Many: 1}, "\x00"},
		{alone(), bytesFrom(0, 255)},
		{classesOf(2, map[uint8]string{1: "\xff"}), "\x00\xff"},
		{classesOf(2, map[uint8]string{1: bytesFrom(1, 255)}), "\x00\x01"},
		{classesOf(3, map[uint8]string{1: "a\xff", 2: "bz"}), "\x00ab"},
		{classesOf(4, map[uint8]string{1: "\x3f\x7e", 2: "\x40\xfe", 3: "\xbf"}), "\x00\x3f\x40\xbf"},
	} {
		if !Right(x.c) {
			t.Error("not right:", shown(x.c))
		}
		for class := range len(x.firsts) {
			if b, ok := First(x.c, class); b != x.firsts[class] || !ok {
				t.Error(shown(x.c), class, b, ok)
			}
		}
		for _, class := range []int{math.MinInt, -1 << 32, -257, -256, -255, -1, x.c.Many, x.c.Many + 1, x.c.Many + 255, x.c.Many + 256, 256, 257, 1 << 32, math.MaxInt} {
			if b, ok := First(x.c, class); b != 0 || ok {
				t.Error(shown(x.c), class, b, ok)
			}
		}
	}
}

// P6.2: sets that part no class, and those that part one, or by one byte.
func TestFits(t *testing.T) {
	all := bytesFrom(0, 255)
	one := api.Classes{Many: 1}
	three := classesOf(3, map[uint8]string{1: "a\xff", 2: "bz"})
	rest := bytesFrom(0, 'a'-1) + bytesFrom('c', 'y') + bytesFrom('{', 254)
	for _, x := range []struct {
		c    api.Classes
		in   string
		fits bool
	}{
		{one, "", true}, {one, all, true}, {one, "\x00", false}, {one, "\xff", false}, {one, all[1:], false}, {one, all[:255], false}, {one, bytesFrom(64, 127), false},
		{three, "", true}, {three, all, true}, {three, "a\xff", true}, {three, "bz", true}, {three, "abz\xff", true}, {three, rest, true}, {three, rest + "bz", true}, {three, rest + "a\xff", true},
		{three, "a", false}, {three, "\xff", false}, {three, "b", false}, {three, "z", false}, {three, "ab", false}, {three, "a\xffb", false}, {three, "abz", false}, {three, rest[1:], false}, {three, rest + "a", false}, {three, rest + "bz\xff", false}, {three, "\x00a\xff", false}, {three, rest[:200], false},
		{alone(), "", true}, {alone(), all, true}, {alone(), "a", true}, {alone(), "\x00\xff", true}, {alone(), rest, true},
	} {
		if Fits(x.c, setOf(x.in)) != x.fits {
			t.Errorf("%s, %q: %v", shown(x.c), x.in, !x.fits)
		}
	}
}

// roomy answers trees whose lists have spare room, in which something stands that is not right.
func roomy(l []api.Re) []api.Re {
	out := append(slices.Clone(l), cat(set("spare")))
	for i := range l {
		out[i].Kids = roomy(out[i].Kids)
	}
	return out[:len(l)]
}

// spread answers trees with what stands in their lists' spare room, so that it can be compared.
func spread(l []api.Re) []api.Re {
	out := slices.Clone(l[:cap(l)])
	for i := range out {
		out[i].Kids = spread(out[i].Kids)
	}
	return out
}

// What is handed in is not changed, and its spare room is neither changed nor looked at; the same call answers the same.
func TestMemory(t *testing.T) {
	l := roomy([]api.Re{alt(set("ab"), star(cat(set("bc"), empty)), set("d")), empty, star(set("ad"))})
	before := spread(l)
	want := classesOf(5, map[uint8]string{1: "a", 2: "b", 3: "c", 4: "d"})
	wantOf(t, l, want)
	wantArg(t, append(slices.Clone(l), cat())...)
	wantOf(t, l, want)
	if !reflect.DeepEqual(spread(l), before) {
		t.Error("what was handed in is changed")
	}
}

// Trees that are very deep, very broad, or many, and sets of which no two are the same: the calls end, and soon.
func TestGreatTrees(t *testing.T) {
	const many = 1 << 18
	for _, low := range []api.Re{set("xy"), re(api.ReStar)} {
		deep, nest := low, low
		for range many {
			deep, nest = star(deep), alt(set("x"), nest)
		}
		broad := slices.Repeat([]api.Re{set("x")}, many)
		broad[many-1] = low
		for _, l := range [][]api.Re{{deep}, {nest}, {cat(broad...)}, broad} {
			if low.Kind == api.ReStar {
				wantArg(t, l...)
				continue
			}
			wantParts(t, append([]api.Re{set("x")}, l...), "x", "y")
		}
	}
	var other []api.Re
	for i := range many {
		other = append(other, api.Re{Kind: api.ReSet, Set: api.Set{2: uint64(i), 3: 1}})
	}
	// The first 18 bits of a number are each alone, and the byte that is in all sets is.
	c, err := Of(other)
	if b, ok := First(c, 19); err != api.OK || c.Many != 20 || c.Of[128] != 1 || c.Of[145] != 18 || c.Of[146] != 0 || b != 192 || !ok {
		t.Error(shown(c), err)
	}
}
