package grammar

import (
	"math/rand"
	"slices"
	"strconv"
	"strings"
	"testing"

	"franking/abnf"
	"franking/api"
	"franking/derive"
	"franking/lex"
	"franking/nfa"
	"franking/regex"
	"franking/rules"
	"franking/scan"
	"franking/table"
)

// What follows is a second, plain reading, by hand, of the chapters on paths, commands and replies: what stands there, in words, is held against the tables that are made of the text.

// only tells whether all bytes of a text are of some.
func only(s, some string) bool {
	for i := range len(s) {
		if strings.IndexByte(some, s[i]) < 0 {
			return false
		}
	}
	return true
}

// between answers all bytes from one to another.
func between(lo, hi byte) string {
	var b []byte
	for c := int(lo); c <= int(hi); c++ {
		b = append(b, byte(c))
	}
	return string(b)
}

// named are the bytes that the chapters name.
var named = struct{ letDig, hexes, atom, digits, shown string }{
	letDig: between('a', 'z') + between('A', 'Z') + between('0', '9'),
	hexes:  between('a', 'f') + between('A', 'F') + between('0', '9'),
	atom:   between('a', 'z') + between('A', 'Z') + between('0', '9') + atomBytes,
	digits: between('0', '9'),
	shown:  between(32, 126),
}

// alike tells whether a text is a word, letters great or small.
func alike(s, word string) bool {
	for i := range min(len(s), len(word)) {
		if s[i] != word[i] && (s[i]^word[i] != 32 || !only(s[i:i+1]+word[i:i+1], named.letDig)) {
			return false
		}
	}
	return len(s) == len(word)
}

// all tells whether each of the pieces of a text, with something between two, is as is asked.
func all(s, apart string, is func(string) bool) bool {
	return !slices.ContainsFunc(strings.Split(s, apart), func(piece string) bool { return !is(piece) })
}

// somewhere tells whether a text can be cut at something so that what is ahead and what is behind are as is asked.
func somewhere(s, cut string, ahead, behind func(string) bool) bool {
	for i := range len(s) {
		if strings.HasPrefix(s[i:], cut) && ahead(s[:i]) && behind(s[i+len(cut):]) {
			return true
		}
	}
	return false
}

func isLabel(s string) bool {
	return s != "" && only(s, named.letDig+"-") && s[0] != '-' && s[len(s)-1] != '-'
}

func isDomain(s string) bool { return all(s, ".", isLabel) }

func isNumber(s string) bool {
	n := 0
	for i := range s {
		n = 10*n + int(s[i]) - '0'
	}
	return len(s) >= 1 && len(s) <= 3 && only(s, named.digits) && n <= 255
}

func isGroup(s string) bool { return len(s) >= 1 && len(s) <= 4 && only(s, named.hexes) }

// manyGroups answers how many groups there are, and whether they are groups, or none.
func manyGroups(s string) (int, bool) {
	if s == "" {
		return 0, true
	}
	return strings.Count(s, ":") + 1, all(s, ":", isGroup)
}

func isAddress(s string) bool {
	left, right, cut := strings.Cut(s, "::")
	n, ahead := manyGroups(left)
	m, behind := manyGroups(right)
	if !cut {
		return n == 8 && ahead
	}
	return ahead && behind && n+m <= 6
}

func isLiteral(s string) bool {
	if len(s) > 5 && alike(s[:5], "IPv6:") {
		return isAddress(s[5:])
	}
	return strings.Count(s, ".") == 3 && all(s, ".", isNumber)
}

func isBracket(s string) bool {
	return len(s) > 2 && s[0] == '[' && s[len(s)-1] == ']' && isLiteral(s[1:len(s)-1])
}

func isAtom(s string) bool { return s != "" && only(s, named.atom) }

func isQuoted(s string) bool {
	if len(s) < 2 || s[0] != '"' || s[len(s)-1] != '"' || !only(s, named.shown) {
		return false
	}
	in := s[1 : len(s)-1]
	for in != "" {
		switch {
		case in[0] == '"', in == "\\":
			return false
		case in[0] == '\\':
			in = in[1:]
		}
		in = in[1:]
	}
	return true
}

func isLocal(s string) bool { return all(s, ".", isAtom) || isQuoted(s) }

func isMailbox(s string) bool {
	return somewhere(s, "@", isLocal, func(s string) bool { return isDomain(s) || isBracket(s) })
}

func isRoute(s string) bool {
	return all(s, ",", func(s string) bool { return strings.HasPrefix(s, "@") && isDomain(s[1:]) })
}

func isNull(s string) bool { return s == "<>" }

func isAlone(s string) bool { return alike(s, "<postmaster>") }

func isPath(s string) bool {
	if len(s) < 2 || s[0] != '<' || s[len(s)-1] != '>' {
		return false
	}
	s = s[1 : len(s)-1]
	return isMailbox(s) || somewhere(s, ":", isRoute, isMailbox)
}

func isShown(s string) bool { return s != "" && only(s, named.shown) }

// isParam tells whether a text is a blank and a key, and, if it is to be so, = and a value.
func isParam(s string, with bool) bool {
	key, value, has := strings.Cut(s, "=")
	if has != with || with && (!isShown(value) || strings.ContainsAny(value, " =")) {
		return false
	}
	return len(key) > 1 && key[0] == ' ' && only(key[1:], named.letDig+"-") && key[1] != '-'
}

// isSaid tells whether a text is a line of a reply with that behind its digits.
func isSaid(s, apart string) bool {
	return len(s) > 3 && only(s[:3], named.digits) && s[0] >= '2' && s[0] <= '5' && s[3:4] == apart && only(s[4:], named.shown+"\t")
}

// plainBook answers for each name of a book which texts it tells.
func plainBook(book uint8) []func(string) bool {
	var l []func(string) bool
	word := func(words ...string) {
		for _, w := range words {
			l = append(l, func(s string) bool { return alike(s, w) })
		}
	}
	switch book {
	case api.BookVerb:
		word("HELO", "EHLO", "MAIL", "RCPT", "DATA", "RSET", "VRFY", "EXPN", "NOOP", "HELP", "QUIT")
	case api.BookHead:
		word("FROM:", "TO:")
	case api.BookArg:
		l = append(l, isDomain, isBracket, isShown)
	case api.BookParam:
		l = append(l, func(s string) bool { return isParam(s, true) }, func(s string) bool { return isParam(s, false) })
	case api.BookPath:
		l = append(l, isNull, isAlone, isPath)
	case api.BookPart:
		l = append(l, func(s string) bool { return s != "" && only(s, named.atom+".") }, isQuoted, isBracket)
		word("@", ",", ":")
	case api.BookReply:
		l = append(l, func(s string) bool { return isSaid(s, "-") }, func(s string) bool { return isSaid(s, " ") })
	}
	return l
}

// plainTag answers the place of the first name that tells a text, -1 if none does.
func plainTag(book []func(string) bool, s string) int {
	return slices.IndexFunc(book, func(is func(string) bool) bool { return is(s) })
}

// stepped answers the state to which a table comes by a byte, -1 if that is nowhere. (table.Step asks first, each time, whether all the table is right.)
func stepped(x api.Table, state int, c byte) int { return x.D.Next[state*x.D.Many+int(x.C.Of[c])] }

// tagBehind answers the tag behind a text that is begun at a state, -1 if there is none.
func tagBehind(x api.Table, state int, s string) int {
	for i := 0; i < len(s) && state >= 0; i++ {
		state = stepped(x, state, s[i])
	}
	if state < 0 {
		return -1
	}
	return x.D.Tags[state]
}

// check holds by which name a table tells all of a text against the plain reading, and answers its place, -1 if none does.
func check(t testing.TB, x api.Table, plain []func(string) bool, s string) int {
	t.Helper()
	want := plainTag(plain, s)
	if tag := tagBehind(x, 0, s); tag != want {
		t.Fatalf("%s of %q: %d; want %d", short(s), x.Names, tag, want)
	}
	return want
}

// ways answers, for each state of a table, one of the shortest texts that lead to it; of bytes alike it takes the first one.
func ways(x api.Table) []string {
	l := make([]string, len(x.D.Tags))
	met := map[int]bool{0: true}
	for queue := []int{0}; len(queue) > 0; queue = queue[1:] {
		for c := range 256 {
			if to := stepped(x, queue[0], byte(c)); to >= 0 && !met[to] {
				met[to] = true
				l[to] = l[queue[0]] + string([]byte{byte(c)})
				queue = append(queue, to)
			}
		}
	}
	return l
}

// firsts answers a byte of each class.
func firsts(x api.Table) []string {
	l := make([]string, x.C.Many)
	for c := 255; c >= 0; c-- {
		l[x.C.Of[c]] = string([]byte{byte(c)})
	}
	return l
}

// apart answers some texts by which each two states of a table, and nowhere, are told from one another.
func apart(t *testing.T, x api.Table) []string {
	t.Helper()
	l := []string{""}
	told := map[int]string{} // of each state, the tags behind these texts
	for state := -1; state < len(x.D.Tags); state++ {
		told[state] = strconv.Itoa(tagBehind(x, state, ""))
	}
	for at := 0; at < len(l); at++ {
		for _, c := range firsts(x) {
			more := map[int]string{}
			for state, tags := range told {
				more[state] = tags + " " + strconv.Itoa(tagBehind(x, state, c+l[at]))
			}
			if kinds(more) > kinds(told) {
				told = more
				l = append(l, c+l[at])
			}
		}
	}
	if kinds(told) < len(told) {
		t.Errorf("of %q: of %d states only %d are told apart", x.Names, len(told), kinds(told))
	}
	return l
}

// kinds answers how many there are that are told apart.
func kinds(told map[int]string) int {
	met := map[string]bool{}
	for _, tags := range told {
		met[tags] = true
	}
	return len(met)
}

// P14.3: from each state of each table on, by each byte, the table goes to where the plain reading goes, as far as texts tell by which the table's states are told apart. Any other reading that could stand at no more places would be found by that.
func TestEachState(t *testing.T) {
	for book := range chapterNames() {
		x, plain := tableOf(t, book), plainBook(book)
		tails := apart(t, x)
		told, untold := 0, 0
		for _, ahead := range ways(x) {
			for c := range 256 {
				for _, tail := range tails {
					if check(t, x, plain, ahead+string([]byte{byte(c)})+tail) >= 0 {
						told++
					} else {
						untold++
					}
				}
			}
		}
		if told < 10 || untold < 1000 {
			t.Errorf("book %d: %d texts told, %d not", book, told, untold)
		}
	}
}

// pieces answers some texts out of which texts of a book are laid, right ones and wrong ones.
func pieces(book uint8) []string {
	switch book {
	case api.BookVerb:
		return strings.Fields("he lo HE LO ma il MAIL rc pt da ta DATA rs et vr fy ex pn no op NOOP he lp q uit QUIT helo eh")
	case api.BookHead:
		return []string{"from", "FR", "OM", "to", "T", "o", ":", " "}
	case api.BookParam:
		return []string{" ", " a", "a", "-", "9", "=", "=", "x", "<", "~", "\x7f", "\t"}
	case api.BookReply:
		return []string{"2", "5", "50", "99", "250", "199", "600", "-", " ", "a", "\t", "~", "\x7f", "\n"}
	}
	// What has brackets or paths.
	return []string{
		"<", ">", "@", ",", ":", ".", "-", "[", "]", "\"", "\\", "a", "Z9", "a-b", "x.y", "!", "{}", "[1.2.3.4]", "[IPv6:", "::", "::]", "0", "25", "255", "256", "1.2.3.4", "f:", ":Ab", "1:2:3:4", "12345", "\"\"", "\"a b\"", "\\\"", "postmaster", "<postmaster>", "<>",
		"<a@", "<@a:", "@b>", "@[1.2.3.4]>", "@a:", ",@b", "a@b", " ", "\x7f",
	}
}

// laid answers a text of pieces by chance.
func laid(r *rand.Rand, some []string) string {
	var b strings.Builder
	for range 1 + r.Intn(7) {
		b.WriteString(some[r.Intn(len(some))])
	}
	return b.String()
}

// grown answers a text by chance that a tree of the grammar derives.
func grown(r *rand.Rand, g api.Gram, tree api.Tree) string {
	switch tree.Kind {
	case api.TreeName:
		at, _ := rules.Find(g, tree.Text)
		return grown(r, g, g.Rules[at].Tree)
	case api.TreeChars:
		l := cases(tree.Text[:min(len(tree.Text), 3)])
		return l[r.Intn(len(l))] + tree.Text[min(len(tree.Text), 3):]
	case api.TreeBytes:
		return tree.Text
	case api.TreeRange:
		return string([]byte{tree.Lo + byte(r.Intn(int(tree.Hi-tree.Lo)+1))})
	case api.TreeOr:
		return grown(r, g, tree.Kids[r.Intn(len(tree.Kids))])
	}
	kids, many := tree.Kids, 1
	if tree.Kind == api.TreeTimes {
		most := tree.Max
		if most < 0 {
			most = tree.Min + 3
		}
		many = tree.Min + r.Intn(most-tree.Min+1)
	}
	s := ""
	for range many {
		for _, kid := range kids {
			s += grown(r, g, kid)
		}
	}
	return s
}

// chances answers what tells texts by chance: such as names of a book derive, and such as are laid of pieces, some of them spoilt.
func chances(t testing.TB, r *rand.Rand, book uint8) func() string {
	g, names, some := gramOf(t), strings.Fields(chapterNames()[book]), pieces(book)
	return func() string {
		if r.Intn(2) == 0 {
			return spoilt(r, laid(r, some))
		}
		s := grown(r, g, api.Tree{Kind: api.TreeName, Text: names[r.Intn(len(names))]})
		return spoilt(r, s)
	}
}

// spoilt answers a text with a byte more, less, or another one, perhaps.
func spoilt(r *rand.Rand, s string) string {
	at, c := r.Intn(len(s)+1), string([]byte{byte(r.Intn(256))})
	if r.Intn(2) == 0 {
		c = string(s[r.Intn(len(s))])
	}
	switch r.Intn(6) {
	case 0:
		return s[:at] + c + s[at:]
	case 1:
		return s[:at] + s[min(at+1, len(s)):]
	case 2:
		return s[:at] + c + s[min(at+1, len(s)):]
	}
	return s
}

// addresses answers by chance what may be an address' groups and colons.
func addresses(r *rand.Rand) string {
	var b strings.Builder
	b.WriteString("[IPv6:")
	for range r.Intn(10) {
		b.WriteString([]string{"1", "aB", "0F0", "ffff", "1:", "2c:", ":3", "::", "4:5:6", "7:8:9:"}[r.Intn(10)])
		if r.Intn(2) == 0 {
			b.WriteString(":")
		}
	}
	return b.String() + "]"
}

// P14.3: texts by chance, of which enough are told by each name, and enough by none.
func TestByChance(t *testing.T) {
	for book := api.BookVerb; book <= api.BookReply; book++ {
		r := rand.New(rand.NewSource(int64(book)))
		x, plain, next := tableOf(t, book), plainBook(book), chances(t, r, book)
		told := make([]int, 1+len(plain))
		for range 50000 {
			told[1+check(t, x, plain, next())]++
		}
		if slices.Min(told) < 100 {
			t.Errorf("book %d: by none, and by its names: %d", book, told)
		}
	}
	r := rand.New(rand.NewSource(14))
	told := map[int]int{}
	arg, path := tableOf(t, api.BookArg), tableOf(t, api.BookPath)
	args, paths := plainBook(api.BookArg), plainBook(api.BookPath)
	for range 50000 {
		s := spoilt(r, addresses(r))
		told[check(t, arg, args, s)]++
		check(t, path, paths, "<a@"+s+">")
	}
	if told[1] < 1000 || told[2] < 1000 {
		t.Error(told)
	}
}

// P14.3: all short texts of the bytes that matter most.
func TestShort(t *testing.T) {
	for _, c := range []struct {
		book         uint8
		some         string
		long         int
		ahead, after string
	}{
		{api.BookArg, "a-.", 8, "", ""},
		{api.BookArg, "0125.", 7, "[1.2.", "]"},
		{api.BookArg, "0269", 4, "[1.", ".3.4]"},
		{api.BookArg, "a:", 13, "[IPv6:", "]"},
		{api.BookArg, "aA9 [].\x7f", 5, "", ""},
		{api.BookParam, " a-=~", 7, "", ""},
		{api.BookPath, "a@<>:", 7, "", ""},
		{api.BookPath, "a@,:.", 7, "<", ">"},
		{api.BookPath, "a@,:\"", 7, "<@a", ">"},
		{api.BookPath, "\"\\a @", 7, "<", "@a>"},
		{api.BookPath, "\"\\>", 9, "<\"", "\"@a>"},
		{api.BookPart, "a.\"\\@:,[", 5, "", ""},
		{api.BookReply, "259- \t\n", 6, "", ""},
		{api.BookVerb, "heloHEp", 5, "", ""},
		{api.BookVerb, "datrseDT", 5, "", ""},
		{api.BookHead, "fromt:F ", 5, "", ""},
	} {
		x, plain := tableOf(t, c.book), plainBook(c.book)
		told := 0
		var from func(s string)
		from = func(s string) {
			if check(t, x, plain, c.ahead+s+c.after) >= 0 {
				told++
			}
			for i := 0; i < len(c.some) && len(s) < c.long; i++ {
				from(s + c.some[i:i+1])
			}
		}
		from("")
		if told < 3 {
			t.Errorf("book %d: of %q only %d are told", c.book, c.some, told)
		}
	}
}

// gramOf answers the grammar that the text is.
func gramOf(t testing.TB) api.Gram {
	t.Helper()
	toks, at, err := lex.Lex(Text())
	if err != api.OK {
		t.Fatal(at, err)
	}
	list, at, err := abnf.Parse(toks)
	if err != api.OK {
		t.Fatal(at, err)
	}
	g, name, err := rules.Gather(list)
	if err != api.OK {
		t.Fatal(name, err)
	}
	return g
}

// P14.2, P14.3: each book's trees and machines are within the caps, and the table is what layer 11 makes.
func TestWithinCaps(t *testing.T) {
	g, c := gramOf(t), Caps()
	for book := range chapterNames() {
		var trees []api.Re
		for _, name := range Names(book) {
			tree, err := regex.Inline(g, name, c.Tree)
			if err != api.OK {
				t.Errorf("%s: %d", name, err)
			}
			trees = append(trees, tree)
		}
		if _, err := nfa.Build(trees, c.Nfa); err != api.OK {
			t.Errorf("the first machine of %d: %d", book, err)
		}
		x, f := scan.Make(strings.Join(chapterLines(), "\n")+"\n", strings.Fields(chapterNames()[book]), api.Caps{Tree: 4000, Nfa: 4000, Dfa: 600})
		if f != (api.Fault{}) {
			t.Fatal(book, f)
		}
		want, _ := table.Pack(x)
		if got, err := table.Pack(tableOf(t, book)); err != api.OK || string(got) != string(want) {
			t.Errorf("book %d: another table than that of the chapter's text", book)
		}
	}
}

// P14.3: what tables tell is what the rules derive.
func TestDerived(t *testing.T) {
	g := gramOf(t)
	for book := api.BookVerb; book <= api.BookReply; book++ {
		plain, names := plainBook(book), strings.Fields(chapterNames()[book])
		next := chances(t, rand.New(rand.NewSource(3)), book)
		told := 0
		for range 200 {
			s := next()
			for tag, name := range names {
				is, err := derive.Derives(g, name, s)
				if err == api.OK && is != plain[tag](s) || err != api.OK && len(s) <= api.MaxDerive {
					t.Errorf("%s of %q: %t, %d", name, s, is, err)
				}
				if is {
					told++
				}
			}
		}
		if told < 20 {
			t.Errorf("book %d: %d texts", book, told)
		}
	}
}

// wantFirst holds the first token of a text against the longest beginning of it that the plain reading tells.
func wantFirst(t testing.TB, x api.Table, plain []func(string) bool, s string) {
	t.Helper()
	var want []api.Piece
	for n := len(s); n > 0 && want == nil; n-- {
		if tag := plainTag(plain, s[:n]); tag >= 0 {
			want = []api.Piece{{Tag: tag, Len: n}}
		}
	}
	got, _ := scan.Tokens(x, s)
	if got = got[:min(len(got), 1)]; !slices.Equal(got, want) {
		t.Fatalf("%s: the first token of %q: %v; want %v", short(s), x.Names, got, want)
	}
}

// P14.3: the first token of a text is the longest one that the plain reading tells there.
func TestFirstTokens(t *testing.T) {
	for book := api.BookVerb; book <= api.BookReply; book++ {
		x, plain := tableOf(t, book), plainBook(book)
		next := chances(t, rand.New(rand.NewSource(41)), book)
		for range 2000 {
			wantFirst(t, x, plain, next()+next())
		}
	}
}

func FuzzBooks(f *testing.F) {
	for book, s := range map[uint8]string{1: "Data", 2: "FROM:", 3: "a.b-c", 4: " a=b", 5: "<@a,@b:\"c\\\"\"@[IPv6:1::2]>", 6: "[1.2.3.4]", 7: "250-a b"} {
		f.Add(book, s)
	}
	f.Fuzz(func(t *testing.T, book uint8, s string) {
		if names := Names(book); len(names) == 0 || len(s) > 1000 {
			return
		}
		x, plain := tableOf(t, book), plainBook(book)
		check(t, x, plain, s)
		wantFirst(t, x, plain, s)
	})
}
