package classes

import (
	"math/rand"
	"slices"
	"strings"
	"testing"

	"franking/abnf"
	"franking/api"
	"franking/lex"
	"franking/regex"
	"franking/rules"
)

// The chapter's words once more, as plainly as may be, to hold the package against.

func plainIn(s api.Set, b int) bool { return s[b/64]&(1<<(b%64)) != 0 }

// plainSets answers the sets of some trees.
func plainSets(l []api.Re) []api.Set {
	var out []api.Set
	for _, r := range l {
		if r.Kind == api.ReSet {
			out = append(out, r.Set)
		}
		out = append(out, plainSets(r.Kids)...)
	}
	return out
}

// plainApart tells whether one of some sets tells two bytes apart.
func plainApart(sets []api.Set, a, b int) bool {
	return slices.ContainsFunc(sets, func(s api.Set) bool { return plainIn(s, a) != plainIn(s, b) })
}

// plainOf answers the classes of some right trees: a byte is of the class of the least one that it is not told apart from.
func plainOf(l []api.Re) api.Classes {
	sets := plainSets(l)
	var c api.Classes
	for b := range 256 {
		like := 0
		for plainApart(sets, like, b) {
			like++
		}
		if like == b {
			c.Of[b] = uint8(c.Many)
			c.Many++
		} else {
			c.Of[b] = c.Of[like]
		}
	}
	return c
}

// plainFirst answers the least byte of a class, or -1.
func plainFirst(c api.Classes, class int) int {
	return slices.IndexFunc(c.Of[:], func(of uint8) bool { return int(of) == class })
}

func plainRight(c api.Classes) bool {
	if c.Many < 1 || c.Many > 256 {
		return false
	}
	for _, of := range c.Of {
		if int(of) >= c.Many {
			return false
		}
	}
	before := -1
	for class := range c.Many {
		first := plainFirst(c, class)
		if first <= before {
			return false // It is not there, or does not rise.
		}
		before = first
	}
	return true
}

func plainFits(c api.Classes, s api.Set) bool {
	if !plainRight(c) {
		return false
	}
	for a := range 256 {
		for b := range a {
			if c.Of[a] == c.Of[b] && plainIn(s, a) != plainIn(s, b) {
				return false
			}
		}
	}
	return true
}

// checkOf holds Of of some right trees against the chapter's words.
func checkOf(t testing.TB, l []api.Re) api.Classes {
	t.Helper()
	want := plainOf(l)
	got, err := Of(l)
	if err != api.OK || got != want {
		t.Fatalf("%+v: %s, %d; want %s", l, shown(got), err, shown(want))
	}
	return got
}

// checkFollow holds what follows: with more trees no fewer classes, and what was told apart still is; each set fits.
func checkFollow(t testing.TB, l []api.Re) {
	t.Helper()
	before := api.Classes{Many: 1}
	for many := range len(l) + 1 {
		c := checkOf(t, l[:many])
		if many == 0 && c != before {
			t.Fatalf("without trees: %s", shown(c))
		}
		if c.Many < before.Many {
			t.Fatalf("%+v: fewer classes with more trees: %s, %s", l[:many], shown(before), shown(c))
		}
		for a := range 256 {
			for b := range a {
				if before.Of[a] != before.Of[b] && c.Of[a] == c.Of[b] {
					t.Fatalf("%+v: %d and %d are told apart no more", l[:many], a, b)
				}
			}
		}
		for _, s := range plainSets(l[:many]) {
			if !Fits(c, s) {
				t.Fatalf("%+v: a set does not fit: %v", l[:many], s)
			}
		}
		before = c
	}
}

// checkClasses holds Right, First and Fits of some classes, right or not, against the chapter's words, and answers whether they are right.
func checkClasses(t testing.TB, c api.Classes, sets ...api.Set) bool {
	t.Helper()
	right := plainRight(c)
	if Right(c) != right {
		t.Fatalf("%s: right %v", shown(c), !right)
	}
	for class := -2; class < 260; class++ {
		want, wantOk := byte(0), false
		if right && class >= 0 && class < c.Many {
			want, wantOk = byte(plainFirst(c, class)), true
		}
		if got, ok := First(c, class); got != want || ok != wantOk {
			t.Fatalf("%s: First of %d: %d, %v", shown(c), class, got, ok)
		}
	}
	for _, s := range sets {
		if want := plainFits(c, s); Fits(c, s) != want {
			t.Fatalf("%s, %v: fits %v", shown(c), s, !want)
		}
	}
	return right
}

// P6.1: all lists of at most three sets of four bytes.
func TestShortLists(t *testing.T) {
	var sets []api.Re
	for bits := 1; bits < 16; bits++ {
		in := ""
		for i, one := range []string{"\x00", "a", "\x80", "\xff"} {
			if bits>>i&1 == 1 {
				in += one
			}
		}
		sets = append(sets, set(in))
	}
	counts := map[int]int{}
	for _, a := range sets {
		checkOf(t, []api.Re{a})
		for _, b := range sets {
			checkOf(t, []api.Re{alt(a, star(b))})
			for _, c := range sets {
				counts[checkOf(t, []api.Re{a, b, c}).Many]++
			}
		}
	}
	for many := 2; many <= 5; many++ {
		if counts[many] < 10 {
			t.Error("hardly any lists of so many classes:", many, counts)
		}
	}
}

// P6.2: all classes of the first bytes, and of the others as one.
func TestShortClasses(t *testing.T) {
	sets := []api.Set{{}, setOf("\x00"), setOf("\x01\x03"), setOf(bytesFrom(4, 255)), setOf(bytesFrom(2, 255)), setOf("\x00\x01\x02\x03")}
	right := 0
	for numbers := range 5 * 5 * 5 * 5 * 5 {
		var c api.Classes
		for b := range 256 {
			c.Of[b] = uint8(numbers % 5)
			if b < 4 {
				numbers /= 5
			}
		}
		for many := -1; many <= 6; many++ {
			c.Many = many
			if checkClasses(t, c, sets...) {
				right++
			}
		}
	}
	if right != 52 {
		t.Error("so many ways there are to part five, but told are", right)
	}
}

// randSet answers a set of few bytes, or of many.
func randSet(r *rand.Rand) api.Set {
	var s api.Set
	for s == (api.Set{}) {
		switch r.Intn(4) {
		case 0:
			s = setOf(bytesFrom(r.Intn(256), r.Intn(256)))
		case 1:
			s = api.Set{r.Uint64(), r.Uint64(), r.Uint64(), r.Uint64()}
		case 2:
			s = setOf(bytesFrom(r.Intn(4)*64, r.Intn(5)*64-1))
		default:
			for range 1 + r.Intn(5) {
				s[r.Intn(4)] |= 1 << r.Intn(64)
			}
		}
	}
	return s
}

// randTree answers a right tree, at most so deep.
func randTree(r *rand.Rand, deep int) api.Re {
	kind := uint8(r.Intn(5))
	if deep == 1 {
		kind = uint8(r.Intn(2))
	}
	switch kind {
	case api.ReNone:
		return empty
	case api.ReSet:
		return api.Re{Kind: api.ReSet, Set: randSet(r)}
	case api.ReStar:
		return star(randTree(r, deep-1))
	}
	var kids []api.Re
	for range 2 + r.Intn(3) {
		kids = append(kids, randTree(r, deep-1))
	}
	return re(kind, kids...)
}

func randTrees(r *rand.Rand) []api.Re {
	var l []api.Re
	for range r.Intn(5) {
		l = append(l, randTree(r, 1+r.Intn(4)))
	}
	return l
}

// P6.1, P6.2, P6.3: lists of trees, and classes that are made of their classes.
func TestTreesByChance(t *testing.T) {
	r := rand.New(rand.NewSource(6))
	most, right, wrong := 0, 0, 0
	for range 1000 {
		l := randTrees(r)
		checkFollow(t, l)
		c := checkOf(t, l)
		most = max(most, c.Many)
		other := slices.Clone(l)
		r.Shuffle(len(l), func(i, j int) { other[i], other[j] = other[j], other[i] })
		if again := checkOf(t, append(other, l...)); again != c {
			t.Fatalf("%+v: in another order, and twice: %s, %s", l, shown(c), shown(again))
		}
		for range r.Intn(3) {
			c.Of[r.Intn(256)] = c.Of[r.Intn(256)]
		}
		c.Many += r.Intn(5) / 4
		if checkClasses(t, c, append(plainSets(l), randSet(r))...) {
			right++
		} else {
			wrong++
		}
	}
	if most < 100 || right < 100 || wrong < 100 {
		t.Error("hardly anything was looked at:", most, right, wrong)
	}
}

// P6.3: of one set that has some bytes and lacks others there are two classes, those that are in it and those that are not; of one that has all of them, one.
func TestOneSet(t *testing.T) {
	r := rand.New(rand.NewSource(63))
	for range 1000 {
		s := randSet(r)
		want := 2
		if s == setOf(bytesFrom(0, 255)) {
			want = 1
		}
		for _, tree := range []api.Re{{Kind: api.ReSet, Set: s}, star(cat(api.Re{Kind: api.ReSet, Set: s}, empty))} {
			c := checkOf(t, []api.Re{tree})
			if c.Many != want {
				t.Fatalf("%v: %s", s, shown(c))
			}
			for b := range 256 {
				if (c.Of[b] == c.Of[0]) != (plainIn(s, b) == plainIn(s, 0)) {
					t.Fatalf("%v: %d is in the wrong one: %s", s, b, shown(c))
				}
			}
		}
	}
}

// trees answers the regular trees of all rules of a grammar's text, or none, if it is none.
func trees(s string) []api.Re {
	toks, _, err := lex.Lex(s)
	if err != api.OK {
		return nil
	}
	list, _, err := abnf.Parse(toks)
	if err != api.OK {
		return nil
	}
	g, _, _ := rules.Gather(list)
	var out []api.Re
	for _, rule := range g.Rules {
		if tree, err := regex.Inline(g, rule.Name, 2000); err == api.OK {
			out = append(out, tree)
		}
	}
	return out
}

// The classes of a grammar's rules, as the layers above ask for them.
func TestOfGrammar(t *testing.T) {
	wantParts(t, trees("word = 1*%x61-7A"), bytesFrom('a', 'z'))
	wantParts(t, trees("word = 1*%x61-7A\nnum = 1*%x30-39"), bytesFrom('a', 'z'), "0123456789")
	wantParts(t, trees("word = 1*%x61-7A\nnum = 1*%x30-39 [\"e\" num-1]\nnum-1 = 2%x30-31"), strings.ReplaceAll(bytesFrom('a', 'z'), "e", ""), "e", "E", "01", "23456789")
	wantParts(t, trees("a = %x00-FF / \"\"\nb = *a"))
	wantParts(t, trees("a = %x0D.0A / \"@\" / *%x21-7E"), "\r", "\n", "@", strings.ReplaceAll(bytesFrom(0x21, 0x7E), "@", ""))
}

// treesOfBytes answers trees, right or not, as the bytes of a text tell: each one puts a leaf down, or takes the last trees as kids.
func treesOfBytes(s string) []api.Re {
	l := []api.Re{empty, empty}
	for i := range len(s) {
		last := len(l) - 1
		switch s[i] % 8 {
		case 0, 1, 2:
			l = append(l, set(s[i:min(i+3, len(s))]))
		case 3:
			l = append(l, set(bytesFrom(int(s[i]), int(s[len(s)-1]))), empty)
		case 4:
			l[last] = star(l[last])
		case 5, 6:
			l = append(l[:last-1], re(s[i]%8-5+api.ReCat, l[last-1], l[last]), empty)
		default:
			l[last] = api.Re{Kind: s[i] / 8 % 8, Kids: l[last].Kids}
		}
	}
	return l
}

// FuzzOf takes a text for a grammar, for trees, and for the numbers of classes.
func FuzzOf(f *testing.F) {
	f.Add("a = 1*3b / %x00-7F \"ab\"\nb = *%x30-39", 3)
	f.Add("\x00\x01\x02\x00\x01", 3)
	f.Fuzz(func(t *testing.T, s string, many int) {
		if len(s) > 300 {
			return
		}
		if l := trees(s); len(l) < 10 {
			checkFollow(t, l)
		}
		c := api.Classes{Many: many}
		copy(c.Of[:], s)
		checkClasses(t, c, setOf(s))
		l := treesOfBytes(s)
		for _, r := range l {
			if !regex.Right(r) {
				wantArg(t, l...)
				return
			}
		}
		checkClasses(t, checkOf(t, l), append(plainSets(l), setOf(s))...)
	})
}
