package table

import (
	"bytes"
	"encoding/binary"
	"math/rand"
	"regexp"
	"slices"
	"strings"
	"testing"

	"franking/abnf"
	"franking/api"
	"franking/classes"
	"franking/dfa"
	"franking/least"
	"franking/lex"
	"franking/nfa"
	"franking/regex"
	"franking/rules"
)

// The chapter's words once more, as plainly as may be, to hold the package against.

var plainName = regexp.MustCompile(`\A[a-z][a-z0-9-]{0,63}\z`)

func plainRight(t api.Table) bool {
	return plainClasses(t.C) && plainMachine(t.D) && t.C.Many == t.D.Many && plainNames(t.Names) && len(t.Names) > slices.Max(t.D.Tags)
}

func plainClasses(c api.Classes) bool {
	var firsts []int
	for class := range c.Many {
		if class > 255 {
			return false
		}
		firsts = append(firsts, bytes.IndexByte(c.Of[:], byte(class)))
	}
	return len(firsts) > 0 && firsts[0] >= 0 && slices.IsSorted(firsts) && int(slices.Max(c.Of[:])) < c.Many
}

func plainMachine(d api.Dfa) bool {
	states := len(d.Tags)
	if d.Many < 1 || d.Many > 256 || states < 1 || states > 5000 || len(d.Next) != states*d.Many {
		return false
	}
	return slices.Min(d.Tags) >= -1 && slices.Max(d.Tags) <= 199 && slices.Min(d.Next) >= -1 && slices.Max(d.Next) < states
}

func plainNames(l []string) bool {
	for i, name := range l {
		if !plainName.MatchString(name) || slices.Contains(l[:i], name) {
			return false
		}
	}
	return len(l) > 0 && len(l) <= 200
}

func plainBytes(t api.Table) []byte {
	var out bytes.Buffer
	put := func(n any) { binary.Write(&out, binary.BigEndian, n) }
	put([]uint8{70, 84, 1, uint8(t.D.Many - 1)})
	put(uint16(len(t.D.Tags)))
	put(uint8(len(t.Names)))
	for _, name := range t.Names {
		put(uint8(len(name)))
		put([]byte(name))
	}
	put(t.C.Of)
	for _, tag := range t.D.Tags {
		put(uint8(tag + 1))
	}
	for _, to := range t.D.Next {
		put(uint16(to + 1))
	}
	return out.Bytes()
}

// plainRead answers the table whose bytes are those: it guesses one, taking 0 where bytes are wanting, and holds it against them.
func plainRead(b []byte) (api.Table, bool) {
	at := func(i int) int {
		if i < len(b) {
			return int(b[i])
		}
		return 0
	}
	many, states, names := at(3)+1, at(4)*256+at(5), at(6)
	t := api.Table{C: api.Classes{Many: many}, D: api.Dfa{Many: many}}
	place := 7
	for range names {
		from := min(place+1, len(b))
		place += 1 + at(place)
		t.Names = append(t.Names, string(b[from:max(from, min(place, len(b)))]))
	}
	for i := range 256 {
		t.C.Of[i] = uint8(at(place + i))
	}
	place += 256
	if states > 5000 || len(b) != place+states+2*states*many {
		return api.Table{}, false
	}
	for i := range states {
		t.D.Tags = append(t.D.Tags, at(place+i)-1)
	}
	place += states
	for i := range states * many {
		t.D.Next = append(t.D.Next, at(place+2*i)*256+at(place+2*i+1)-1)
	}
	if !plainRight(t) || !bytes.Equal(plainBytes(t), b) {
		return api.Table{}, false
	}
	return t, true
}

// check holds the package's answers of a table, right or not, against the chapter's words, and answers its bytes; or none, if it is not right.
func check(t testing.TB, x api.Table) ([]byte, bool) {
	t.Helper()
	if !plainRight(x) {
		wantWrong(t, x)
		return nil, false
	}
	b := plainBytes(x)
	wantBytes(t, x, b)
	for _, state := range []int{-2, -1, 0, 1, len(x.D.Tags) / 2, len(x.D.Tags) - 1, len(x.D.Tags), len(x.D.Tags) + 1} {
		for _, by := range []byte{0, 1, 'a', 'm', 254, 255} {
			want := -1
			if state >= 0 && state < len(x.D.Tags) {
				want = x.D.Next[state*x.D.Many+int(x.C.Of[by])]
			}
			wantStep(t, x, state, by, want)
		}
	}
	return b, true
}

// checkBytes holds what is read of bytes, a table's or not, against the chapter's words, and tells whether they are a table's.
func checkBytes(t testing.TB, b []byte) bool {
	t.Helper()
	want, ok := plainRead(b)
	if !ok {
		wantNone(t, b)
		return false
	}
	got, err := Read(b)
	if err != api.OK || !same(got, want) || !Right(got) {
		t.Errorf("%s: %d, %s; want %s", shownBytes(b), err, shown(got), shown(want))
	}
	if again, err := Pack(got); err != api.OK || !bytes.Equal(again, b) {
		t.Errorf("%s: %d, packed again %s", shownBytes(b), err, shownBytes(again))
	}
	return true
}

// shortMachines goes through machines of so many classes and states: of all tags and ways that may be, and one more that may not.
func shortMachines(many, states, names int) func(func(api.Dfa) bool) {
	return func(yield func(api.Dfa) bool) {
		ways, tags := 1, 1
		for range states * many {
			ways *= states + 2
		}
		for range states {
			tags *= names + 2
		}
		for i := range ways * tags {
			d := api.Dfa{Many: many}
			for range states * many {
				d.Next = append(d.Next, i%(states+2)-1)
				i /= states + 2
			}
			for range states {
				d.Tags = append(d.Tags, i%(names+2)-1)
				i /= names + 2
			}
			if !yield(d) {
				return
			}
		}
	}
}

// P10.1 to P10.3: all short tables, and some that are none: unlike ones have unlike bytes, and none has the beginning of another one's.
func TestShortTables(t *testing.T) {
	var parts []api.Classes
	for _, of := range []string{"", "\x01", "\x00\x01", "\x01\x01\x01", "\x00\x01\x01", "\x00\x00\x02"} {
		for many := 1; many <= 2; many++ {
			c := api.Classes{Many: many}
			copy(c.Of[253:], of)
			parts = append(parts, c)
		}
	}
	texts := map[string]string{}
	right, wrong, seen := 0, 0, 0
	for _, c := range parts {
		for _, l := range [][]string{nil, {"a"}, {"b"}, {"a", "b"}, {"b", "a"}, {"a", "a"}, {"ab"}, {"a", ""}, {"A"}} {
			for states := range 3 {
				for d := range shortMachines(c.Many, states, len(l)) {
					// Of the most ones each seventh one is enough: so all numbers are there beside all others.
					if seen++; len(d.Next) == 4 && seen%7 != 0 {
						continue
					}
					x := api.Table{C: c, D: d, Names: l}
					b, ok := check(t, x)
					if !ok {
						wrong++
						continue
					}
					right++
					if other, is := texts[string(b)]; is {
						t.Fatalf("%s and %s have the same bytes", other, shown(x))
					}
					texts[string(b)] = shown(x)
				}
			}
		}
	}
	all := make([]string, 0, len(texts))
	for text := range texts {
		all = append(all, text)
	}
	slices.Sort(all)
	for i := range len(all) - 1 {
		if strings.HasPrefix(all[i+1], all[i]) {
			t.Errorf("%s: a beginning of %s", texts[all[i]], texts[all[i+1]])
		}
	}
	if right < 1500 || wrong < 20000 {
		t.Error("hardly anything was looked at:", right, wrong)
	}
}

// P10.2, P10.3: each byte of some tables' bytes is each other one.
func TestEachByte(t *testing.T) {
	for _, x := range []api.Table{
		tableOf(some(1), []int{0}, []int{0}, "a"),
		tableOf(some(1), []int{-1, 0}, []int{1, -1}, "a", "bb"),
		tableOf(classesFrom(1), []int{-1, 1, 0, 0}, []int{1, 0}, "a-", "a-0"),
		good(),
	} {
		b, _ := Pack(x)
		is := 0
		for i := range b {
			for more := range 255 {
				l := slices.Clone(b)
				l[i] += byte(more + 1)
				if checkBytes(t, l) {
					is++
				}
			}
		}
		if is == 0 {
			t.Error("no other table:", shown(x))
		}
	}
}

// randName answers a name, mostly a short one.
func randName(r *rand.Rand) string {
	b := []byte{byte('a' + r.Intn(26))}
	for range r.Intn(1 + r.Intn(1+r.Intn(64))) {
		b = append(b, "abcxyz0189-"[r.Intn(11)])
	}
	return string(b)
}

// randNames answers some names, no two the same.
func randNames(r *rand.Rand) []string {
	var l []string
	for range 1 + r.Intn(1+r.Intn(200)) {
		if name := randName(r); !slices.Contains(l, name) {
			l = append(l, name)
		}
	}
	return l
}

// randClasses answers classes of all kinds: few, many, and as many as may be.
func randClasses(r *rand.Rand) api.Classes {
	c := api.Classes{Many: 1}
	begin := 1 + r.Intn(1+r.Intn(200))
	for b := 1; b < 256; b++ {
		if r.Intn(begin) == 0 && r.Intn(30) > 0 {
			c.Of[b] = uint8(c.Many)
			c.Many++
		} else {
			c.Of[b] = uint8(r.Intn(c.Many))
		}
	}
	return c
}

// randTable answers a table that is right.
func randTable(r *rand.Rand) api.Table {
	c := randClasses(r)
	names := randNames(r)
	states := 1 + r.Intn(1+r.Intn(40))
	if r.Intn(20) == 0 {
		states = 200 + r.Intn(400)
	}
	next, tags := make([]int, states*c.Many), make([]int, states)
	for i := range next {
		next[i] = r.Intn(states+1) - 1
	}
	for i := range tags {
		tags[i] = r.Intn(len(names)+1) - 1
	}
	return tableOf(c, next, tags, names...)
}

// spoil changes something of a table, which may be right then all the same.
func spoil(r *rand.Rand, x *api.Table) {
	switch r.Intn(9) {
	case 0:
		x.C.Many += r.Intn(3) - 1
	case 1:
		x.D.Many += r.Intn(3) - 1
	case 2:
		x.C.Of[r.Intn(256)] = uint8(r.Intn(min(x.C.Many+2, 256)))
	case 3:
		x.D.Next[r.Intn(len(x.D.Next))] = r.Intn(len(x.D.Tags)+4) - 2
	case 4:
		x.D.Tags[r.Intn(len(x.D.Tags))] = r.Intn(len(x.Names)+4) - 2
	case 5:
		x.Names = x.Names[:len(x.Names)-1]
	case 6:
		i := r.Intn(len(x.Names))
		x.Names[i] += string([]byte{byte(r.Intn(128))})
	case 7:
		x.Names = append(x.Names, x.Names[r.Intn(len(x.Names))])
	default:
		i := r.Intn(len(x.Names))
		x.Names[i] = x.Names[i][1:]
	}
}

// P10.1 to P10.3: tables by chance, right and not.
func TestTablesByChance(t *testing.T) {
	r := rand.New(rand.NewSource(10))
	right, wrong, last := 0, 0, []byte(nil)
	for range 3000 {
		x := randTable(r)
		if r.Intn(3) > 0 {
			spoil(r, &x)
		}
		b, ok := check(t, x)
		if !ok {
			wrong++
			continue
		}
		right++
		wantNone(t, b[:r.Intn(len(b))])
		wantNone(t, append(slices.Clone(b), make([]byte, 1+r.Intn(600))...))
		if last != nil {
			wantNone(t, append(slices.Clone(b), last...))
		}
		last = b
	}
	if right < 1000 || wrong < 800 {
		t.Error("hardly anything was looked at:", right, wrong)
	}
}

// P10.2, P10.3: a table's bytes with some changed, taken away, or put in by chance.
func TestBytesByChance(t *testing.T) {
	r := rand.New(rand.NewSource(101))
	right, wrong := 0, 0
	for range 4000 {
		b, _ := Pack(randTable(r))
		for range 1 + r.Intn(3) {
			i := r.Intn(len(b))
			if r.Intn(2) == 0 {
				i = min(i, r.Intn(30))
			}
			switch r.Intn(5) {
			case 0:
				b = slices.Delete(b, i, min(len(b), i+1+r.Intn(3)))
			case 1:
				b = slices.Insert(b, i, byte(r.Intn(256)))
			case 2:
				b[i] += byte(r.Intn(3)) - 1
			default:
				j := r.Intn(len(b))
				b[i], b[j] = b[j], b[i]
			}
		}
		if checkBytes(t, b) {
			right++
		} else {
			wrong++
		}
	}
	if right < 100 || wrong < 1000 {
		t.Error("hardly anything was looked at:", right, wrong)
	}
}

// P10.3: two tables have the same bytes just if they are the same: those beside one another differ by one thing.
func TestUnlike(t *testing.T) {
	r := rand.New(rand.NewSource(102))
	unlike := 0
	for range 2000 {
		x := randTable(r)
		other := x
		other.D.Next, other.D.Tags, other.Names = slices.Clone(x.D.Next), slices.Clone(x.D.Tags), slices.Clone(x.Names)
		spoil(r, &other)
		a, _ := Pack(x)
		b, err := Pack(other)
		if err == api.OK && bytes.Equal(a, b) != same(x, other) {
			t.Errorf("%s and %s: the same bytes, or not", shown(x), shown(other))
		}
		if err == api.OK && !same(x, other) {
			unlike++
		}
	}
	if unlike < 500 {
		t.Error("hardly anything was looked at:", unlike)
	}
}

// gramOf answers the table of a grammar's rules, as the layers above make it, and their first machine; or none, if the text is no grammar.
func gramOf(s string) (api.Nfa, api.Table, bool) {
	toks, _, _ := lex.Lex(s)
	list, _, _ := abnf.Parse(toks)
	g, _, _ := rules.Gather(list)
	var l []api.Re
	var x api.Table
	for _, rule := range g.Rules {
		if r, err := regex.Inline(g, rule.Name, 500); err == api.OK && len(l) < api.MaxNames {
			l = append(l, r)
			x.Names = append(x.Names, rule.Name)
		}
	}
	x.C, _ = classes.Of(l)
	n, _ := nfa.Build(l, api.MaxNfa)
	d, err := dfa.Build(n, x.C, 100)
	if err != api.OK {
		return n, x, false
	}
	x.D, err = least.Least(d)
	return n, x, err == api.OK && len(x.Names) > 0
}

// checkGram holds that by the steps of a grammar's table, packed and read again, the tags behind a text's bytes are those that its first machine tells. It tells whether there is a table.
func checkGram(t testing.TB, s string, texts ...string) bool {
	t.Helper()
	n, x, ok := gramOf(s)
	if !ok {
		return false
	}
	b, ok := check(t, x)
	if !ok {
		// A rule's name may be longer than a table's.
		return false
	}
	read, _ := Read(b)
	for _, text := range texts {
		want, _ := nfa.Run(n, text)
		at := 0
		got := []int{read.D.Tags[0]}
		for i := range len(text) {
			at = Step(read, at, text[i])
			tag := -1
			if at != -1 {
				tag = read.D.Tags[at]
			}
			got = append(got, tag)
		}
		if !slices.Equal(got, want) {
			t.Errorf("%q: %q: %v; want %v", s, text, got, want)
		}
	}
	return true
}

// P10.1 to P10.3: the table of a grammar's rules.
func TestGrammar(t *testing.T) {
	const text = `if = %x69.66
word = alpha *(alpha / digit / "-" (alpha / digit))
alpha = %x61-7A / %x41-5A
digit = %x30-39
num = 1*3digit ["." 1*digit]
quoted = %x22 *(%x20-21 / %x23-5B / %x5D-7E / %x5C %x20-7E) %x22
high = *%x80-FF`
	if !checkGram(t, text, "", "if", "IF", "iffy", "a-b.c--d", "12.5", "1234", `"a\"b" "`, "1 2 ", "\"\xff", "x\x00y", "\x80\xff\x80") {
		t.Error("no table")
	}
	if checkGram(t, strings.Repeat("a", 65)+" = %x30") || !checkGram(t, strings.Repeat("a", 64)+" = %x30", "0", "00", "a") {
		t.Error("a name's bytes")
	}
}

// FuzzRead takes bytes, as they are and as what stands behind a right beginning, and texts for a grammar and what its table reads.
func FuzzRead(f *testing.F) {
	for _, x := range []api.Table{good(), tableOf(some(1), []int{0}, []int{0}, "a"), great(2, 3)} {
		b, _ := Pack(x)
		f.Add(b, "a = 1*3b / %x00-7F \"ab\"\nb = *%x30-39", "1234ab")
	}
	f.Fuzz(func(t *testing.T, b []byte, g, s string) {
		checkBytes(t, b)
		checkBytes(t, append([]byte{70, 84, 1}, b...))
		if len(g) < 100 && len(s) < 100 {
			checkGram(t, g, s)
		}
	})
}
