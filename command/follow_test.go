package command

import (
	"maps"
	"math/rand"
	"regexp"
	"slices"
	"strconv"
	"strings"
	"testing"

	"franking/api"
	"franking/grammar"
	"franking/path"
	"franking/scan"
)

// What follows is a second, plain reading of the chapter: its table's rows as patterns of a whole line.

// anyCase answers the pattern of a word's letters, great or small.
func anyCase(word string) string {
	var b strings.Builder
	for _, c := range word {
		b.WriteString("[" + string(c) + strings.ToLower(string(c)) + "]")
	}
	return b.String()
}

// row is one of the table: which lines say the verb, and which of them say it rightly.
type row struct{ says, right *regexp.Regexp }

// chapterTable answers the rows, in the order of the verbs' numbers. What is ahead of a pattern's groups is the word; of MAIL and RCPT the first group is the path and what comes behind it.
func chapterTable() []row {
	const free = `( [ -~]+)`
	var l []row
	for i, word := range strings.Fields(chapterWords) {
		behind := []string{` (.+)`, ` (.+)`, " " + anyCase("FROM") + `:(.*)`, " " + anyCase("TO") + `:(.*)`, ``, ``, free, free, free + `?`, free + `?`, ``}[i]
		l = append(l, row{regexp.MustCompile(`^(?s:` + anyCase(word) + `( .*)?)$`), regexp.MustCompile(`^(?s:` + anyCase(word) + behind + `)$`)})
	}
	return l
}

// table is the chapter's; asked for by each line.
var table = chapterTable()

// Of parameters: all, and one of them.
var (
	allParams = regexp.MustCompile(`^(?: [0-9A-Za-z][-0-9A-Za-z]*(?:=[!-<>-~]+)?)*$`)
	oneParam  = regexp.MustCompile(` ([-0-9A-Za-z]+)(=?)([^ ]*)`)
)

// plainParse tells what a line says.
func plainParse(line string) (api.Cmd, api.Errno) {
	if len(line) > 510 {
		return api.Cmd{}, api.ErrLong
	}
	at := slices.IndexFunc(table, func(r row) bool { return r.says.MatchString(line) })
	if at < 0 {
		return api.Cmd{}, api.ErrVerb
	}
	c := api.Cmd{Verb: uint8(at + 1)}
	if !table[at].right.MatchString(line) {
		return api.Cmd{}, api.ErrSyntax
	}
	behind := line[min(len(line), 5):]
	switch at + 1 {
	case 1, 2:
		if !path.Domain(behind) && (at == 0 || !plainBracket(behind)) {
			return api.Cmd{}, api.ErrSyntax
		}
		c.Arg = strings.ToLower(behind)
	case 3, 4:
		_, behind, _ = strings.Cut(behind, ":")
		return plainSent(c, behind)
	default:
		c.Arg = behind
	}
	return c, api.OK
}

// plainBracket tells whether a text is a literal's words in [ and ].
func plainBracket(s string) bool {
	return len(s) > 2 && s[:1]+s[len(s)-1:] == "[]" && path.Literal(s[1:len(s)-1])
}

// plainSent tells a path and parameters, by the only cut that makes both of a text.
func plainSent(c api.Cmd, s string) (api.Cmd, api.Errno) {
	for end := range len(s) + 1 {
		p, n, err := path.Parse(s[:end])
		if err != api.OK || n != end || !allParams.MatchString(s[end:]) {
			continue
		}
		if c.Verb == 4 && s[:end] == "<>" || c.Verb == 3 && strings.ToLower(s[:end]) == "<postmaster>" {
			break
		}
		c.Path = p
		for _, of := range oneParam.FindAllStringSubmatch(s[end:], -1) {
			c.Params = append(c.Params, api.Param{Key: strings.ToUpper(of[1]), Value: of[3], Has: of[2] != ""})
		}
		return c, api.OK
	}
	return api.Cmd{}, api.ErrSyntax
}

// plainLine answers the line of a command whose path is right.
func plainLine(c api.Cmd) string {
	line := ""
	if c.Verb >= 1 && c.Verb <= 11 {
		line = strings.Fields(chapterWords)[c.Verb-1]
	}
	switch c.Verb {
	case 3, 4:
		text, _ := path.Print(c.Path)
		line += " " + map[uint8]string{3: "FROM:", 4: "TO:"}[c.Verb] + text
		for _, p := range c.Params {
			line += " " + p.Key + map[bool]string{true: "=" + p.Value}[p.Has]
		}
	default:
		line += map[bool]string{false: " " + c.Arg}[c.Arg == ""]
	}
	return line
}

// plainRight tells whether a command is what may be told, by its parts.
func plainRight(c api.Cmd) bool {
	sent := c.Verb == 3 || c.Verb == 4
	if !sent && !same(api.Cmd{Path: c.Path, Params: c.Params}, api.Cmd{}) || len(plainLine(c)) > 510 {
		return false
	}
	shown := regexp.MustCompile(`^[ -~]+$`).MatchString(c.Arg)
	lower := c.Arg == strings.ToLower(c.Arg)
	switch c.Verb {
	case 1:
		return lower && path.Domain(c.Arg)
	case 2:
		return lower && (path.Domain(c.Arg) || plainBracket(c.Arg))
	case 3, 4:
		isAlone := !c.Path.Null && c.Path.Box == api.Mailbox{Local: "postmaster"}
		return c.Arg == "" && path.Right(c.Path) && !(c.Verb == 3 && isAlone) && !(c.Verb == 4 && c.Path.Null) && plainRightParams(c.Params)
	case 7, 8:
		return shown
	case 9, 10:
		return shown || c.Arg == ""
	case 5, 6, 11:
		return c.Arg == ""
	}
	return false
}

// plainRightParams tells whether parameters are what may be told.
func plainRightParams(l []api.Param) bool {
	great, value := regexp.MustCompile(`^[0-9A-Z][-0-9A-Z]*$`), regexp.MustCompile(`^[!-<>-~]+$`)
	return !slices.ContainsFunc(l, func(p api.Param) bool {
		return !great.MatchString(p.Key) || p.Has && !value.MatchString(p.Value) || !p.Has && p.Value != ""
	})
}

// wantPlain holds what a line says against the plain reading, and answers whether it says something.
func wantPlain(t testing.TB, line string) bool {
	t.Helper()
	want, err := plainParse(line)
	if err != api.OK {
		wantError(t, err, line)
		return false
	}
	wantCmd(t, line, want)
	wantPrinted(t, want, plainLine(want))
	if !plainRight(want) {
		t.Errorf("Parse of %s: %+v, which is not right", short(line), want)
	}
	return true
}

// P16.1 to P16.3: all short texts of the bytes that matter most.
func TestAllShort(t *testing.T) {
	for _, c := range []struct {
		some         string
		long         int
		ahead, after string
		least        int
	}{
		{"NnOoP ", 6, "", "", 16},
		{"rRsetE x", 5, "", "", 4},
		{"QUITuit ", 5, "", "", 8},
		{"LPlp y", 4, "HE", "", 8},
		{" a\x1f\x7f~", 6, "VRFY", "", 300},
		{" \x00b", 8, "help", "", 200},
		{" \x00b", 8, "Data", "", 1},
		{" a.-A", 7, "HELO", "", 300},
		{" 1.[]", 6, "EHLO", "", 12},
		{"[].1 ", 4, "EHLO [1.1.1", "", 3},
		{":[]a", 6, "EHLO [IPv6:", "", 10},
		{"OoMm: <>", 5, "MAIL FR", "", 4},
		{"tTo: <", 5, "RCPT ", "a@b>", 4},
		{"<a@b> ", 6, "MAIL FROM:", "", 3},
		{" <>A=", 6, "MAIL FROM:<>", "", 20},
		{"\"> A", 7, "RCPT TO:<\"", "@a>", 50},
		{"> \"@a", 7, "RCPT TO:<\"", "\"@a>", 50},
		{" a-=~", 7, "RCPT TO:<a@b>", "", 400},
		{" aZ9-_=", 5, "MAIL FROM:<>", "", 400},
		{"=\x7f ~", 6, "MAIL FROM:<a@b> X", "", 5},
	} {
		said := 0
		var from func(s string)
		from = func(s string) {
			if wantPlain(t, c.ahead+s+c.after) {
				said++
			}
			if t.Failed() {
				return
			}
			for i := 0; i < len(c.some) && len(s) < c.long; i++ {
				from(s + c.some[i:i+1])
			}
		}
		from("")
		if said < c.least {
			t.Fatalf("of %q behind %q: only %d say something", c.some, c.ahead, said)
		}
	}
}

// one answers one of some texts by chance.
func one(r *rand.Rand, of ...string) string { return of[r.Intn(len(of))] }

// anyhow answers a text with each letter great or small by chance.
func anyhow(r *rand.Rand, s string) string {
	b := []byte(s)
	for i := range b {
		if isLetter(string(b[i:i+1])) && r.Intn(2) == 0 {
			b[i] ^= 32
		}
	}
	return string(b)
}

// chancePath answers a path's text by chance, which may be beyond the limits, or none.
func chancePath(r *rand.Rand) string {
	route := one(r, "", "", "@a:", "@A.b,@c:", "@a,", "@"+often("d", 60+r.Intn(6))+":", "@x"+often(",@y", r.Intn(22))+":")
	local := one(r, "a", "A.b", "a+=?", `"a b"`, `"> x=1"`, `"\">"`, `""`, "postmaster", "a b", often("c", 60+r.Intn(7)))
	domain := one(r, "b", "X.Org", "[1.2.3.4]", "[IPv6:A::]", "-a", often("e.", r.Intn(140))+"f")
	return one(r, "<>", "<PostMaster>", "<postmaster>", "<"+route+local+"@"+domain+">", "<"+local+"@b>", "<a@"+domain+">")
}

// chanceParams answers parameters' text by chance, which may be none.
func chanceParams(r *rand.Rand) string {
	var b strings.Builder
	for range r.Intn(1 + r.Intn(8)) {
		b.WriteString(one(r, " ", " ", " ", " ", " ", " ", " ", "  ", "", "\t") + one(r, "a", "SIZE", "k-1", "0", "x--", "B", often("q", r.Intn(200)), "-", "_", "-a"))
		if r.Intn(2) == 0 {
			b.WriteString("=" + one(r, "1", "v", "~", "<a@b>", often("w", 1+r.Intn(200)), "x", "!", "", "=", "a=", "\x7f"))
		}
	}
	return b.String()
}

// chanceLine answers a line by chance, most of what stands in it right.
func chanceLine(r *rand.Rand) string {
	word := one(r, strings.Fields(chapterWords)...)
	behind := ""
	switch word {
	case "HELO", "EHLO":
		behind = " " + one(r, "a", "A.b-C", "[1.2.3.4]", "[IPv6:A::1]", "[a]", "-a", often("b.", r.Intn(135))+"c", often("d", 60+r.Intn(7)))
	case "MAIL":
		behind = " " + anyhow(r, "FROM:") + chancePath(r) + chanceParams(r)
	case "RCPT":
		behind = " " + anyhow(r, "TO:") + chancePath(r) + chanceParams(r)
	case "VRFY", "EXPN", "NOOP", "HELP":
		behind = one(r, "", " ", "  ", " a b", " ~", " \x7f", " "+often("x ", r.Intn(400)))
	default:
		behind = one(r, "", "", "", " ", " x")
	}
	return anyhow(r, word) + behind
}

// spoilt answers a text with a byte more, less, or another one, perhaps.
func spoilt(r *rand.Rand, s string) string {
	at, c := r.Intn(len(s)+1), one(r, " ", "=", ">", ":", "-", string([]byte{byte(r.Intn(256))}))
	switch r.Intn(8) {
	case 0:
		return s[:at] + c + s[at:]
	case 1:
		return s[:at] + s[min(at+1, len(s)):]
	case 2:
		return s[:at] + c + s[min(at+1, len(s)):]
	}
	return s
}

// P16.1 to P16.3: lines by chance, of which enough say each verb, and enough are each error.
func TestByChance(t *testing.T) {
	r := rand.New(rand.NewSource(16))
	verb, errs := map[uint8]int{}, map[api.Errno]int{}
	for range 60000 {
		line := spoilt(r, chanceLine(r))
		wantPlain(t, line)
		c, err := Parse(line)
		verb[c.Verb]++
		errs[err]++
		// Letters great or small say the same in a verb's word, and in what stands ahead of a path.
		if word, behind, blank := strings.Cut(line, " "); blank && err == api.OK {
			head, rest, cut := strings.Cut(behind, ":")
			other := anyhow(r, word) + " " + behind
			if cut && (c.Verb == api.VerbMail || c.Verb == api.VerbRcpt) {
				other = anyhow(r, word) + " " + anyhow(r, head) + ":" + rest
			}
			wantCmd(t, other, c)
		}
	}
	for v := range uint8(12) {
		if verb[v] < 500 {
			t.Error("hardly anything was said:", verb)
			break
		}
	}
	if errs[api.ErrLong] < 500 || errs[api.ErrVerb] < 500 || errs[api.ErrSyntax] < 5000 {
		t.Error("hardly anything was none:", errs)
	}
}

// chanceCmd answers a command by chance, which may be one that may not be told.
func chanceCmd(r *rand.Rand) api.Cmd {
	c, _ := plainParse(chanceLine(r))
	if r.Intn(3) == 0 {
		c.Verb = uint8(r.Intn(13))
	}
	if r.Intn(4) == 0 {
		c.Arg = one(r, "", " ", "a", "A", "[1.2.3.4]", "\x7f", "a b", often("b", r.Intn(600)))
	}
	if r.Intn(6) == 0 {
		p, n, _ := path.Parse(chancePath(r))
		c.Path, c.Path.Null = p, c.Path.Null != (n%5 == 1)
	}
	for range r.Intn(1 + r.Intn(3)) {
		c.Params = append(c.Params, api.Param{Key: one(r, "A", "SIZE", "X-", "a", "", "-A", "A B", "A=B", often("K", r.Intn(400))), Value: one(r, "", "v", "=", " ", "v w", often("V", r.Intn(300))), Has: r.Intn(3) > 0})
	}
	return c
}

// P16.2, P16.3: commands by chance, of which enough are right, and enough are not.
func TestBackByChance(t *testing.T) {
	r := rand.New(rand.NewSource(17))
	many := map[bool]int{}
	for range 60000 {
		c := chanceCmd(r)
		right := plainRight(c)
		many[right]++
		if !right {
			wantWrong(t, c)
			continue
		}
		wantPrinted(t, c, plainLine(c))
	}
	if many[true] < 10000 || many[false] < 10000 {
		t.Error("hardly anything was looked at:", many)
	}
}

// What follows holds this layer against the tables of the embedded grammar (P14.3).

// tableOf answers the table of a book of the grammar.
func tableOf(t testing.TB, book uint8) api.Table {
	t.Helper()
	x, f := grammar.Make(book)
	if f != (api.Fault{}) {
		t.Fatal(book, f)
	}
	return x
}

// stepped answers the state to which a table comes by some bytes, -1 if that is nowhere.
func stepped(x api.Table, state int, s string) int {
	for i := 0; i < len(s) && state >= 0; i++ {
		state = x.D.Next[state*x.D.Many+int(x.C.Of[s[i]])]
	}
	return state
}

// tagged answers by which name a table tells all of what comes behind a state, -1 if by none.
func tagged(x api.Table, state int, s string) int {
	if state = stepped(x, state, s); state < 0 {
		return -1
	}
	return x.D.Tags[state]
}

// ways answers, for each state of a table, one of the shortest texts that lead to it.
func ways(x api.Table) map[int]string {
	l := map[int]string{0: ""}
	for queue := []int{0}; len(queue) > 0; queue = queue[1:] {
		for c := range 256 {
			b := string([]byte{byte(c)})
			to := stepped(x, queue[0], b)
			if _, met := l[to]; to >= 0 && !met {
				l[to] = l[queue[0]] + b
				queue = append(queue, to)
			}
		}
	}
	return l
}

// apart answers some texts by which each two states of a table, and nowhere, are told from one another.
func apart(x api.Table) []string {
	told, l := map[int]string{}, []string{} // of each state, the tags behind these texts
	kinds := func(of map[int]string) int { return len(slices.Compact(slices.Sorted(maps.Values(of)))) }
	behind := func(s string) map[int]string {
		more := map[int]string{}
		for state := -1; state < len(x.D.Tags); state++ {
			more[state] = told[state] + " " + strconv.Itoa(tagged(x, state, s))
		}
		return more
	}
	told, l = behind(""), append(l, "")
	for at := 0; at < len(l); at++ {
		for c := range 256 {
			if more := behind(string([]byte{byte(c)}) + l[at]); kinds(more) > kinds(told) {
				told, l = more, append(l, string([]byte{byte(c)})+l[at])
			}
		}
	}
	return l
}

// everyWay answers texts that go through each state of a table, by each byte, and tell where that leads.
func everyWay(x api.Table) []string {
	var l []string
	tails := apart(x)
	for _, ahead := range ways(x) {
		for c := range 256 {
			for _, tail := range tails {
				l = append(l, ahead+string([]byte{byte(c)})+tail)
			}
		}
	}
	return l
}

// wantAs holds whether a line says something, and of which error else.
func wantAs(t testing.TB, line string, says bool, err api.Errno) {
	t.Helper()
	if says {
		err = api.OK
	}
	if _, e := Parse(line); e != err {
		t.Errorf("Parse of %s: %d; want %d", short(line), e, err)
	}
}

// P14.3: the words of verbs are those of the table.
func TestVerbTable(t *testing.T) {
	x := tableOf(t, api.BookVerb)
	said := 0
	for _, s := range everyWay(x) {
		// A word has no blank.
		if strings.Contains(s, " ") {
			continue
		}
		want := tagged(x, 0, s) + 1
		c, err := Parse(s)
		if want == 0 != (err == api.ErrVerb) || err == api.OK && int(c.Verb) != want {
			t.Errorf("Parse of %q: %+v, %d; the table tells %d", s, c, err, want)
		}
		if tag, ok := scan.Whole(x, s); ok {
			if Word(uint8(tag+1)) != strings.ToUpper(s) {
				t.Errorf("of %q the table tells %d", s, tag)
			}
			said++
		}
	}
	if said < 50 {
		t.Error("hardly anything was said:", said)
	}
}

// P14.3: what stands ahead of a path, arguments and parameters are those of the tables.
func TestOtherTables(t *testing.T) {
	x := tableOf(t, api.BookHead)
	for _, s := range everyWay(x) {
		wantAs(t, "MAIL "+s+"<>", tagged(x, 0, s) == 0, api.ErrSyntax)
		wantAs(t, "RCPT "+s+"<a@b>", tagged(x, 0, s) == 1, api.ErrSyntax)
	}
	x = tableOf(t, api.BookArg)
	for _, s := range everyWay(x) {
		tag := tagged(x, 0, s)
		wantAs(t, "HELO "+s, tag == 0, api.ErrSyntax)
		wantAs(t, "EHLO "+s, tag == 0 || tag == 1, api.ErrSyntax)
		wantAs(t, "VRFY "+s, tag >= 0, api.ErrSyntax)
		wantAs(t, "HELP "+s, tag >= 0, api.ErrSyntax)
	}
	x = tableOf(t, api.BookParam)
	for _, s := range everyWay(x) {
		c, err := Parse("MAIL FROM:<>" + s)
		want := -1
		if err == api.OK && len(c.Params) == 1 {
			want = map[bool]int{true: 0, false: 1}[c.Params[0].Has]
		}
		if got := tagged(x, 0, s); got != want {
			t.Errorf("of %q the table tells %d; Parse: %+v, %d", s, got, c, err)
		}
	}
}

// P14.3: by tables lines say what they say by hand.
func TestTablesByChance(t *testing.T) {
	verb, head, arg, param, paths := tableOf(t, api.BookVerb), tableOf(t, api.BookHead), tableOf(t, api.BookArg), tableOf(t, api.BookParam), tableOf(t, api.BookPath)
	says := func(line string) bool {
		word, behind, blank := strings.Cut(line, " ")
		switch v := tagged(verb, 0, word) + 1; v {
		case 1:
			return tagged(arg, 0, behind) == 0
		case 2:
			return tagged(arg, 0, behind) == 0 || tagged(arg, 0, behind) == 1
		case 3, 4:
			at := strings.Index(behind, ":") + 1
			if tagged(head, 0, behind[:at]) != v-3 {
				return false
			}
			pieces, _ := scan.Tokens(paths, behind[at:])
			if len(pieces) == 0 || pieces[0].Tag == 4-v {
				return false
			}
			rest := behind[at+pieces[0].Len:]
			_, end := scan.Tokens(param, rest)
			return end == len(rest)
		case 7, 8:
			return tagged(arg, 0, behind) >= 0
		case 9, 10:
			return !blank || tagged(arg, 0, behind) >= 0
		}
		return !blank && tagged(verb, 0, word) >= 0
	}
	r := rand.New(rand.NewSource(143))
	many := map[bool]int{}
	for range 4000 {
		line := spoilt(r, chanceLine(r))
		_, err := Parse(line)
		want := says(line)
		many[want]++
		// What is beyond the limits tables tell, too: no part of so short a line is.
		if len(line) < 60 && want != (err == api.OK) || err == api.OK && !want {
			t.Errorf("of %s the tables say %t; Parse: %d", short(line), want, err)
		}
	}
	if many[true] < 1000 || many[false] < 1000 {
		t.Error("hardly anything was looked at:", many)
	}
}

func FuzzCommand(f *testing.F) {
	for word, behind := range verbs() {
		f.Add(word + behind)
		f.Add(strings.ToLower(word) + " a")
	}
	for line := range ahead() {
		f.Add(line + " a=b C")
	}
	f.Fuzz(func(t *testing.T, line string) {
		if len(line) < 2000 {
			wantPlain(t, line)
		}
	})
}
