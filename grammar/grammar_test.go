package grammar

import (
	"slices"
	"strconv"
	"strings"
	"testing"

	"franking/api"
	"franking/scan"
	"franking/table"
)

// none is by what a text is told that no name of a book tells.
const none = ""

// chapterLines answers the text's lines, as the chapter has them.
func chapterLines() []string {
	return []string{
		"letter = %x41-5A / %x61-7A",
		"digit = %x30-39",
		"let-dig = letter / digit",
		"label = let-dig *( *\"-\" let-dig )",
		"domain = label *( \".\" label )",
		"atom-char = let-dig / \"!\" / %x23-27 / %x2A-2B / \"-\" / \"/\"",
		"atom-char =/ \"=\" / \"?\" / %x5E-60 / %x7B-7E",
		"atom = 1*atom-char",
		"dot-string = atom *( \".\" atom )",
		"quoted = %x22 *( %x20-21 / %x23-5B / %x5D-7E / %x5C %x20-7E ) %x22",
		"local = dot-string / quoted",
		"octet = 1*2digit / %x30-31 2digit / \"2\" %x30-34 digit / \"25\" %x30-35",
		"four = octet 3( \".\" octet )",
		"hex = 1*4( digit / %x41-46 / %x61-66 )",
		"full = 7( hex \":\" ) hex",
		"short = \"::\" [ hex *5( \":\" hex ) ]",
		"short =/ hex \"::\" [ hex *4( \":\" hex ) ]",
		"short =/ hex \":\" hex \"::\" [ hex *3( \":\" hex ) ]",
		"short =/ hex 2( \":\" hex ) \"::\" [ hex *2( \":\" hex ) ]",
		"short =/ hex 3( \":\" hex ) \"::\" [ hex *1( \":\" hex ) ]",
		"short =/ hex 4( \":\" hex ) \"::\" [ hex ]",
		"short =/ hex 5( \":\" hex ) \"::\"",
		"literal = four / \"IPv6:\" ( full / short )",
		"bracket = \"[\" literal \"]\"",
		"mailbox = local \"@\" ( domain / bracket )",
		"route = \"@\" domain *( \",\" \"@\" domain ) \":\"",
		"null = \"<>\"",
		"alone = \"<postmaster>\"",
		"path = \"<\" [ route ] mailbox \">\"",
		"word = 1*( atom-char / \".\" )",
		"at = \"@\"",
		"comma = \",\"",
		"colon = \":\"",
		"helo = \"HELO\"",
		"ehlo = \"EHLO\"",
		"mail = \"MAIL\"",
		"rcpt = \"RCPT\"",
		"data = \"DATA\"",
		"rset = \"RSET\"",
		"vrfy = \"VRFY\"",
		"expn = \"EXPN\"",
		"noop = \"NOOP\"",
		"help = \"HELP\"",
		"quit = \"QUIT\"",
		"from = \"FROM:\"",
		"to = \"TO:\"",
		"text = 1*%x20-7E",
		"key = let-dig *( let-dig / \"-\" )",
		"with-value = \" \" key \"=\" 1*( %x21-3C / %x3E-7E )",
		"bare = \" \" key",
		"code = %x32-35 2digit",
		"says = *( %x20-7E / %x09 )",
		"more = code \"-\" says",
		"last = code \" \" says",
	}
}

// chapterNames answers the books' names, as the chapter has them.
func chapterNames() map[uint8]string {
	return map[uint8]string{
		1: "helo ehlo mail rcpt data rset vrfy expn noop help quit",
		2: "from to",
		3: "domain bracket text",
		4: "with-value bare",
		5: "null alone path",
		6: "word quoted bracket at comma colon",
		7: "more last",
	}
}

// short answers the beginning of a text that is long, in quotes.
func short(s string) string {
	if len(s) > 200 {
		return strconv.Quote(s[:200]) + " and so on, " + strconv.Itoa(len(s)) + " in all"
	}
	return strconv.Quote(s)
}

// tableOf answers the table of a book.
func tableOf(t testing.TB, book uint8) api.Table {
	t.Helper()
	x, f := Make(book)
	if f != (api.Fault{}) {
		t.Fatalf("Make of %d: %v", book, f)
	}
	return x
}

// by answers the name by which all of a text is told.
func by(x api.Table, s string) string {
	tag, ok := scan.Whole(x, s)
	if !ok {
		return none
	}
	return x.Names[tag]
}

func wantBy(t testing.TB, x api.Table, name string, texts ...string) {
	t.Helper()
	for _, s := range texts {
		if got := by(x, s); got != name {
			t.Errorf("%s: by %q; want by %q", short(s), got, name)
		}
	}
}

// wantBook holds by which names texts are told.
func wantBook(t *testing.T, book uint8, want map[string][]string) {
	t.Helper()
	x := tableOf(t, book)
	for name, texts := range want {
		wantBy(t, x, name, texts...)
	}
}

// wantTokens holds the tokens of a text, each with its name, and what is left.
func wantTokens(t *testing.T, book uint8, s, left string, want ...string) {
	t.Helper()
	x := tableOf(t, book)
	l, end := scan.Tokens(x, s)
	var got []string
	for _, p := range l {
		got = append(got, x.Names[p.Tag]+" "+s[p.At:p.At+p.Len])
	}
	if !slices.Equal(got, want) || s[end:] != left {
		t.Errorf("%s: %q and %q; want %q and %q", short(s), got, s[end:], want, left)
	}
}

// cases answers a word with its letters great and small in all ways.
func cases(word string) []string {
	l := []string{""}
	for i := range len(word) {
		lower, upper := strings.ToLower(word[i:i+1]), strings.ToUpper(word[i:i+1])
		var longer []string
		for _, s := range l {
			longer = append(longer, s+lower)
			if upper != lower {
				longer = append(longer, s+upper)
			}
		}
		l = longer
	}
	return l
}

// beside answers texts that are a word but for a byte: one that it lacks, has more, or has in place of another; but none that one of some other words is.
func beside(word string, others ...string) []string {
	l := []string{word + word}
	for at := range len(word) + 1 {
		for c := range 256 {
			s := string([]byte{byte(c)})
			l = append(l, word[:at]+s+word[at:])
			if at < len(word) && !strings.EqualFold(s, word[at:at+1]) {
				l = append(l, word[:at]+s+word[at+1:])
			}
		}
		if at < len(word) {
			l = append(l, word[:at]+word[at+1:])
		}
	}
	return slices.DeleteFunc(l, func(s string) bool {
		return slices.ContainsFunc(others, func(other string) bool { return strings.EqualFold(s, other) })
	})
}

// wantWord holds that a word, its letters great or small, is told by a name, and what is beside it by none.
func wantWord(t *testing.T, x api.Table, name, word string, others ...string) {
	t.Helper()
	wantBy(t, x, name, cases(word)...)
	wantBy(t, x, none, beside(strings.ToLower(word), others...)...)
	wantBy(t, x, none, beside(strings.ToUpper(word), others...)...)
}

func TestExamples(t *testing.T) {
	verbs, paths := tableOf(t, api.BookVerb), tableOf(t, api.BookPath)
	for _, c := range []struct {
		x   api.Table
		s   string
		tag int
		ok  bool
	}{
		{verbs, "Data", 4, true},
		{paths, "<>", 0, true},
		{paths, "<PostMaster>", 1, true},
		{paths, "<@a:b@[::1]>", 0, false},
		{paths, "<@a:b@[IPv6:::1]>", 2, true},
	} {
		if tag, ok := scan.Whole(c.x, c.s); tag != c.tag || ok != c.ok {
			t.Errorf("%q: %d, %t; want %d, %t", c.s, tag, ok, c.tag, c.ok)
		}
	}
	if x, f := Make(8); f != (api.Fault{Err: api.ErrArg}) || len(x.Names) > 0 {
		t.Errorf("Make of 8: %q, %v", x.Names, f)
	}
}

func TestText(t *testing.T) {
	lines := strings.SplitAfter(Text(), "\n")
	want := chapterLines()
	for i, line := range lines {
		switch {
		case i < len(want) && line != want[i]+"\n":
			t.Errorf("line %d: %q; want %q and a byte 10", i, line, want[i])
		case i > len(want) || i == len(want) && line != "":
			t.Errorf("line %d, which is one too many: %q", i, line)
		}
	}
	if whole := strings.Join(want, "\n") + "\n"; Text() != whole {
		t.Errorf("the text:\n%swant\n%s", Text(), whole)
	}
	if Text() != Text() {
		t.Error("another text")
	}
}

func TestNames(t *testing.T) {
	want := chapterNames()
	for book := range 256 {
		names := strings.Fields(want[uint8(book)])
		if got := Names(uint8(book)); !slices.Equal(got, names) {
			t.Errorf("names of %d: %q; want %q", book, got, names)
		}
	}
	for book, given := range []uint8{api.BookVerb, api.BookHead, api.BookArg, api.BookParam, api.BookPath, api.BookPart, api.BookReply} {
		if int(given) != book+1 {
			t.Errorf("the book %d is numbered %d", book+1, given)
		}
	}
}

// TestOwn holds that what is told is nobody else's: who changes it changes it for nobody else.
func TestOwn(t *testing.T) {
	for book, names := range chapterNames() {
		first := Names(book)
		other := Names(book)
		for i := range first {
			first[i] = "changed"
		}
		_ = append(first[:0], "one more")
		if want := strings.Fields(names); !slices.Equal(other, want) || !slices.Equal(Names(book), want) {
			t.Errorf("names of %d, which changed: %q, %q", book, other, Names(book))
		}
		x, y := tableOf(t, book), tableOf(t, book)
		packed, err := table.Pack(y)
		if err != api.OK {
			t.Fatal(book, err)
		}
		clear(x.Names)
		clear(x.D.Next)
		clear(x.D.Tags)
		for _, z := range []api.Table{y, tableOf(t, book)} {
			if again, err := table.Pack(z); err != api.OK || string(again) != string(packed) {
				t.Errorf("the table of %d, which changed: %d", book, err)
			}
		}
	}
}

func TestCaps(t *testing.T) {
	if c := Caps(); c.Tree != 4000 || c.Nfa != 4000 || c.Dfa != 600 {
		t.Error(c)
	}
}

func TestMake(t *testing.T) {
	want := chapterNames()
	for book := range 256 {
		x, f := Make(uint8(book))
		names, ok := want[uint8(book)]
		if !ok {
			if f != (api.Fault{Err: api.ErrArg}) || len(x.Names) > 0 || len(x.D.Tags) > 0 || len(x.D.Next) > 0 || x.D.Many != 0 || x.C != (api.Classes{}) {
				t.Errorf("Make of %d: %v, %v; want nothing, and ErrArg", book, x, f)
			}
			continue
		}
		if f != (api.Fault{}) || !table.Right(x) || len(x.D.Tags) > Caps().Dfa || !slices.Equal(x.Names, strings.Fields(names)) {
			t.Errorf("Make of %d: %v, %d states, names %q; want names %q", book, f, len(x.D.Tags), x.Names, names)
		}
		wantBy(t, x, none, "", "\x00", "\n", "\r\n", "\x7f", "\x80", "\xff", "\xc3\xa4")
		for i := range x.Names {
			if !slices.Contains(x.D.Tags, i) {
				t.Errorf("Make of %d: nothing is told by %q", book, x.Names[i])
			}
		}
	}
}

func TestVerbs(t *testing.T) {
	x := tableOf(t, api.BookVerb)
	names := strings.Fields(chapterNames()[api.BookVerb])
	for _, name := range names {
		wantWord(t, x, name, name, names...)
		wantBy(t, x, none, " "+name, name+" ", name+" x", name+"\r\n", name[:3], name[1:], name+name[3:])
	}
	wantBy(t, x, none, "H", "xhelo", "helo2", "send", "auth", "turn", "starttls", "noöp", "hel\u1e36")
}

func TestHeads(t *testing.T) {
	x := tableOf(t, api.BookHead)
	wantWord(t, x, "from", "FROM:")
	wantWord(t, x, "to", "TO:")
	wantBy(t, x, none, "FROM", "TO", ":", "FROM :", "TO :", "FROM: ", "TO: ", " FROM:", "FROMTO:", "FROM:<>", "TO:<a@b>")
	wantTokens(t, api.BookHead, "from:<a@b>", "<a@b>", "from from:")
	wantTokens(t, api.BookHead, "To:From: x", " x", "to To:", "from From:")
}

func TestArgs(t *testing.T) {
	wantBook(t, api.BookArg, map[string][]string{
		"domain": {
			"a", "Z", "0", "9", "a1", "1a", "123", "mx.org", "MX.Org", "a.b.c.d.e.f", "x-1.y", "a-b", "a--b", "a---b", "a-b-c", "1-2.3-4", "0.0.0.0", "1.2.3.4", "255.1.1.256",
			"xn--abc-def", "localhost", "a." + strings.Repeat("b", 63), strings.Repeat("c", 64), strings.Repeat("d.", 500) + "d", strings.Repeat("e-", 500) + "e", "a" + strings.Repeat("-", 500) + "b",
			"IPv6", "HELO", "postmaster",
		},
		"bracket": append(brackets(fours(true)), brackets(sixes(true))...),
		"text": append(append([]string{
			" ", "~", "!", "-", ".", "..", "a-", "-a", "-", "--", "-a-", "a-.b", "a.-b", "a.b-", "-a.b", "a..b", ".a", "a.", "a b", " a", "a ", "a_b", "a@b", "a+b", "a/b", "a,b", "a:b", "ab!", "{}", "`", "@", "\\", "\"",
			"[", "]", "[]", "[a]", "1.2.3.4]", "[1.2.3.4", "[1.2.3.4] ", " [1.2.3.4]", "[1.2.3.4]]", "[[1.2.3.4]", "[1.2.3.4][1.2.3.4]", "(1.2.3.4)", "{1.2.3.4}",
			"IPv6:::", "IPv6:1:2:3:4:5:6:7:8", "::1", "<>", "<a@b>", "SIZE=9", "hello, world", strings.Repeat("long ", 5000),
		}, brackets(fours(false))...), brackets(sixes(false))...),
		none: {"", "\x00", "\t", "\n", "\r", "\x1f", "\x7f", "\x80", "\xff", "a\x00", "\x00a", "a\tb", "a\x1f", "a\x7f", "a\x80b", "a.b\r\n", "\r\na.b", "a\nb", "[1.2.3.4]\x00", "[1.2.3.4]\n", "[1.2.3.4\x7f]", "\u00e4.org", "a\u2010b", strings.Repeat("a", 5000) + "\x7f"},
	})
	x := tableOf(t, api.BookArg)
	for c := range 256 {
		s := string([]byte{byte(c)})
		name := none
		if c >= ' ' && c <= '~' {
			name = "text"
		}
		wantBy(t, x, name, "_"+s, s+"_", "_"+s+"_", "[1.2.3.4]"+s)
	}
}

// brackets answers texts, each in [ and ].
func brackets(l []string) []string {
	var in []string
	for _, s := range l {
		in = append(in, "["+s+"]")
	}
	return in
}

// fours answers texts that are four numbers, or are none.
func fours(right bool) []string {
	if !right {
		return []string{
			"", "1", "1.2", "1.2.3", "1.2.3.", ".1.2.3", "1..2.3", "1.2.3.4.", ".1.2.3.4", "1.2.3.4.5", "1.2..3.4", "1 .2.3.4", " 1.2.3.4", "1.2.3.4 ", "1,2,3,4", "1:2:3:4", "1-2-3-4",
			"256.0.0.0", "0.256.0.0", "0.0.256.0", "0.0.0.256", "260.1.1.1", "1.1.1.260", "299.1.1.1", "300.1.1.1", "1.1.1.300", "1.1.1.999", "1.1.1.400", "0001.2.3.4", "1.2.3.0255", "1.2.3.1000", "1.2.3.2550", "0000.0.0.0",
			"a.b.c.d", "1.2.3.a", "1.2.3.4a", "x1.2.3.4", "-1.2.3.4", "+1.2.3.4", "0x1.2.3.4", "1.2.3.f", "1.2.3.:", "1.2.3./",
		}
	}
	l := []string{"0.0.0.0", "1.2.3.4", "127.0.0.1", "255.255.255.255", "00.01.09.010", "000.001.099.000", "249.250.199.200", "9.10.99.100"}
	for n := range 256 {
		s := strconv.Itoa(n)
		l = append(l, s+".1.1.1", "1."+s+".1.1", "1.1."+s+".1", "1.1.1."+s)
		if n < 100 {
			l = append(l, "0"+s+".1.1.0"+s)
		}
		if n < 10 {
			l = append(l, "00"+s+".1.1.00"+s)
		}
	}
	return l
}

// groups answers some groups, a colon between two.
func groups(many int) string {
	return strings.Join(strings.Fields("1 22 a3F 0000 fFfF 6 7 8 9 a b c")[:many], ":")
}

// sixes answers texts that are IPv6, a colon and an address, or are none.
func sixes(right bool) []string {
	var l []string
	for ahead := range 9 {
		for behind := range 9 {
			if ahead+behind <= 6 == right {
				l = append(l, "IPv6:"+groups(ahead)+"::"+groups(behind))
			}
		}
	}
	for many := range 13 {
		if many == 8 == right {
			l = append(l, "IPv6:"+groups(many))
		}
	}
	if right {
		l = append(l, "IPv6:0:0:0:0:0:0:0:0", "IPv6:ffff:FFFF:abcd:ABCD:0123:4567:89ab:CDEF", "IPv6:1:2:3:4:5:6:0007:0008", "IPv6:::ffff:1", "IPv6:fe80::1")
		for _, s := range cases("ipv6:") {
			l = append(l, s+"::", s+"1::2", s+groups(8))
		}
		return l
	}
	return append(l,
		"IPv6", "IPv6:", "IPv6::", "IPv6::1", "IPv6:1:", "IPv6:::1:", "IPv6:1:::2", "IPv6::::", "IPv6:1::2::3", "IPv6:::1::", "IPv6:::g", "IPv6:::G1", "IPv6:::@", "IPv6:::/", "IPv6:::00000", "IPv6:::12345", "IPv6:12345::", "IPv6:1::12345:1",
		"IPv6:1:2:3:4:5:6:7:", "IPv6::2:3:4:5:6:7:8", "IPv6:1:2:3:4:5:6:7:8:", "IPv6::1:2:3:4:5:6:7:8", "IPv6:1:2:3:4:5:6:7:00008", "IPv6:1:2:3:4:5:6:7:g", "IPv6:1.2.3.4", "IPv6:::1.2.3.4", "IPv6:::ffff:1.2.3.4", "IPv6:1:2:3:4:5:6:1.2.3.4",
		"IPv6: ::", "IPv6 :::", "IPv6;::", " IPv6:::", "IPv6::: ", "IPv4:::", "IPv4:1.2.3.4", "IPv:::", "IPv66:::", "v6:::", "::", "::1", "1::", groups(8), "IP:::", "xIPv6:::", "IPv6:IPv6:::", "IPv6:[::]")
}

func TestParams(t *testing.T) {
	wantBook(t, api.BookParam, map[string][]string{
		"bare": {" a", " Z", " 0", " 9", " a-", " a--", " a-b", " SIZE", " 8BITMIME", " x-1-", " BODY", " " + strings.Repeat("k", 5000), " " + strings.Repeat("1-", 5000)},
		"with-value": {
			" a=b", " A-1=b", " a-=b", " 0=0", " SIZE=1000", " BODY=8BITMIME", " a=!", " a=~", " a=<", " a=>", " a=<>", " a=-", " a=\"", " a=\\", " a=@", " a=,", " a=:", " a=a;b", " " + strings.Repeat("k", 5000) + "=" + strings.Repeat("v", 5000),
		},
		none: {
			"", " ", "  ", "a", "a=b", "  a", "  a=b", " a ", " a=b ", " a b", " a =b", " a= b", " a=b c", " a=", " =", " =b", " a==", " a==b", " a=b=", " a=b=c", " -", " -a", " -a=b", " a_b", " a_b=c", " a.b", " a.b=c", " a+", " a/b", " a:b", " a@", " \"a\"", " [",
			"\ta", "\ta=b", " a\t", " a=b\t", " a=\t", " a=\x1f", " a=\x7f", " a=\x80", " a=b\x00", " a\x00", " a\r\n", " a=b\r\n", " \xe4", " a=\xe4", " `", " {", " @", " /",
		},
	})
	x := tableOf(t, api.BookParam)
	for c := range 256 {
		s := string([]byte{byte(c)})
		name := none
		if c > ' ' && c <= '~' && c != '=' {
			name = "with-value"
		}
		wantBy(t, x, name, " a="+s, " a=b"+s, " a="+s+"b")
	}
	wantTokens(t, api.BookParam, " a=b c d-=<e>", "", "with-value  a=b", "bare  c", "with-value  d-=<e>")
	wantTokens(t, api.BookParam, " a b=", "=", "bare  a", "bare  b")
	wantTokens(t, api.BookParam, " a  b", "  b", "bare  a")
}

// atomBytes are the bytes of atoms, but for letters and digits.
const atomBytes = "!#$%&'*+-/=?^_`{|}~"

func TestPaths(t *testing.T) {
	x := tableOf(t, api.BookPath)
	wantWord(t, x, "null", "<>")
	for _, s := range cases("postmaster") {
		wantBy(t, x, "alone", "<"+s+">")
	}
	for _, s := range beside("<postmaster>") {
		// With an @ it may be a path.
		if !strings.Contains(s, "@") {
			wantBy(t, x, none, s)
		}
	}
	wantBook(t, api.BookPath, map[string][]string{
		"path": {
			"<a@b>", "<A@B.c>", "<A.b@X-1.Org>", "<a.b.c@d.e.f>", "<1@2>", "<postmaster@a>", "<PostMaster@[1.2.3.4]>", "<" + atomBytes + "@c>", "<" + strings.Join(strings.Split(atomBytes, ""), ".") + "@c>", "<-@c>", "<-a-@c>", "<a--b@c--d>", "<=.=@c>",
			"<\"\"@a>", "<\"a\"@b>", "<\"a b\"@c>", "<\" \"@a>", "<\"a.b\"@c>", "<\".\"@c>", "<\"..\"@c>", "<\"a@b\"@c>", "<\"a>b\"@c>", "<\"<a@b>\"@c>", "<\">\"@c>", "<\"@a:\"@c>", "<\"(),:;<>@[]\"@c>",
			"<\"\\\"\"@a>", "<\"\\\\\"@a>", "<\"\\a\"@b>", "<\"\\ \"@b>", "<\"\\~\"@b>", "<\"a\\\"b\\\\c\"@d>", "<\"\\\\\\\"\"@a>", "<\"\\>\"@a>", "<\"!#[]~\"@a>",
			"<a@[1.2.3.4]>", "<a@[255.255.255.255]>", "<a@[000.000.000.000]>", "<\"a b\"@[IPv6:::]>", "<a@[ipv6:1::2]>", "<a@[IPv6:" + groups(8) + "]>", "<a@[IPv6:::" + groups(6) + "]>", "<a@[IPv6:" + groups(6) + "::]>",
			"<@a:b@c>", "<@a.b,@C:d@e>", "<@a,@b,@c:d@e>", "<@a--b:c@d>", "<@0:1@2>", "<@a:\"b\"@c>", "<@a:\"\"@[1.2.3.4]>", "<@a,@b:\"c:d,@e\"@[IPv6:::1]>", "<@a:postmaster@b>", "<@1.2.3.4:a@b>",
			"<" + strings.Repeat("a", 65) + "@b>", "<" + strings.Repeat("a.", 5000) + "a@" + strings.Repeat("b.", 5000) + "b>", "<\"" + strings.Repeat("a\\\" ", 5000) + "\"@c>", "<a@" + strings.Repeat("b", 64) + ">", "<@" + strings.Repeat("a,@", 1000) + "a:b@c>",
		},
		none: {
			"", "<", ">", "><", "< >", "<> ", " <>", "<<>>", "<>>", "<<>", "<><>", "()", "postmaster", "<postmaster", "postmaster>", "< postmaster>", "<postmaster >", "<postmaster> ", "<postmaster@>", "<@postmaster>", "<@a:postmaster>", "<@a:>", "<@a>", "<\"postmaster\">", "<post.master>",
			"<a>", "<a@>", "<@b>", "<@>", "<a@b", "a@b>", "a@b", "<a@b> ", " <a@b>", "< a@b>", "<a @b>", "<a@ b>", "<a@b >", "<<a@b>>", "<a@b>>", "<a@b>x", "<a@b><>", "<a b@c>", "<a@b c>", "<a@b@c>", "<a@@b>", "<a@b.>", "<a@.b>", "<a@b..c>",
			"<.a@b>", "<a.@b>", "<a..b@c>", "<.@b>", "<a@-b>", "<a@b->", "<a@b-.c>", "<a@b_>", "<a@b_c>", "<a@b+c>", "<a,b@c>", "<a:b@c>", "<a;b@c>", "<a(b@c>", "<a)b@c>", "<a[b@c>", "<a]b@c>", "<a\\b@c>", "<a\"b@c>", "<a<b@c>", "<a>b@c>",
			"<\"@a>", "<\"a@b>", "<a\"@b>", "<\"a\"b@c>", "<a\"b\"@c>", "<\"a\".b@c>", "<a.\"b\"@c>", "<\"a\"\"b\"@c>", "<\"\\\"@a>", "<\"a\\\"@b>", "<\"\\\\\"\"@a>", "<\"\t\"@a>", "<\"\\\t\"@a>", "<\"\x7f\"@a>", "<\"\\\x7f\"@a>", "<\"\x1f\"@a>", "<\"\x80\"@a>", "<\"\\\xff\"@a>", "<\"a\r\n\"@b>",
			"<a@[]>", "<a@[1.2.3]>", "<a@[1.2.3.4>", "<a@1.2.3.4]>", "<a@[1.2.3.256]>", "<a@[1.2.3.4]", "<a@[1.2.3.4].b>", "<a@b.[1.2.3.4]>", "<a@[1.2.3.4]b>", "<a@[[1.2.3.4]]>", "<a@[::1]>", "<a@[IPv6]>", "<a@[IPv6:]>", "<a@[IPv6:1:2:3:4:5:6:7::]>", "<a@[IPv6:::" + groups(7) + "]>", "<a@[b]>", "<[1.2.3.4]@a>",
			"<@a@b>", "<@a b@c>", "<@a,b@c>", "<@a,@b@c>", "<@a,:b@c>", "<@a,,@b:c@d>", "<,@a:b@c>", "<@a::b@c>", "<:a@b>", "<a:b@c>", "<@:a@b>", "<@a, @b:c@d>", "<@a ,@b:c@d>", "<@a: b@c>", "<@a :b@c>", "<@a,b:c@d>", "<a,@b:c@d>", "<@a:@b:c@d>", "<@[1.2.3.4]:a@b>", "<@a.:b@c>", "<@.a:b@c>", "<@-a:b@c>", "<@a-:b@c>", "<@a:b>", "<@a:<b@c>>", "<@a:b@c", "@a:b@c>",
			"<a\x00@b>", "<a@b\x00>", "<\u00e4@b>", "<a@\u00e4>", "<a@b>\r\n", "<a@b>\x00", "<\x7f@a>", strings.Repeat("<", 5000), "<" + strings.Repeat("a", 5000), "<@" + strings.Repeat("a,@", 5000) + ":b@c>",
		},
	})
	for c := range 256 {
		s := string([]byte{byte(c)})
		atom, quoted, paired := none, none, none
		if c >= '0' && c <= '9' || c >= 'a' && c <= 'z' || c >= 'A' && c <= 'Z' || strings.Contains(atomBytes, s) {
			atom = "path"
		}
		if c >= ' ' && c <= '~' {
			paired = "path"
			if c != '"' && c != '\\' {
				quoted = "path"
			}
		}
		wantBy(t, x, atom, "<"+s+"@a>", "<b."+s+"@a>")
		if c != '.' && c != '@' {
			wantBy(t, x, atom, "<b"+s+"b@a>")
		}
		wantBy(t, x, quoted, "<\""+s+"\"@a>", "<\"b "+s+"\"@a>")
		wantBy(t, x, paired, "<\"\\"+s+"\"@a>", "<\"b\\"+s+"b\"@a>", "<\"\\\\\\"+s+"\"@a>")
	}
	wantTokens(t, api.BookPath, "<a@b> SIZE=9", " SIZE=9", "path <a@b>")
	wantTokens(t, api.BookPath, "<@a:b@c>d", "d", "path <@a:b@c>")
	wantTokens(t, api.BookPath, "<><POSTMASTER><\"><\"@a>>", ">", "null <>", "alone <POSTMASTER>", "path <\"><\"@a>")
	wantTokens(t, api.BookPath, "<a@b", "<a@b")
}

func TestParts(t *testing.T) {
	wantBook(t, api.BookPart, map[string][]string{
		"word":    {"a", "Z", "0", ".", "..", ".a", "a.", "a.b", "a..b", "-", "-a-", "a-b.c", atomBytes, "IPv6", "1.2.3.4", "postmaster", strings.Repeat("a.", 5000)},
		"quoted":  {"\"\"", "\"a\"", "\"a b\"", "\"\\\"\"", "\"\\\\\"", "\"\\a\"", "\"<a@b>\"", "\"~ !#[]\"", "\"" + strings.Repeat("\\\"", 5000) + "\""},
		"bracket": append(brackets(fours(true)), brackets(sixes(true))...),
		"at":      {"@"},
		"comma":   {","},
		"colon":   {":"},
		none: append(append([]string{
			"", " ", "<", ">", "<>", "<a@b>", "(", ")", ";", "\\", "[", "]", "[]", "\"", "\"a", "a\"", "\"\\\"", "\"a\"b", "b\"a\"", "\"\"\"", "\"\x1f\"", "\"\x7f\"", "\"\\\x1f\"", "\"\\\x7f\"", "@@", ",,", "::", "@a", "a@", "a@b", "a,b", "a:b", ",@", "a b", " a", "a ", "\x7f", "\t", "\x00", "\u00e4",
			"[1.2.3.4]a", "a[1.2.3.4]", "[1.2.3.4][1.2.3.4]",
		}, brackets(fours(false))...), brackets(sixes(false))...),
	})
	wantTokens(t, api.BookPart, "@a.b,@C:\"d e\"@[1.2.3.4]>", ">", "at @", "word a.b", "comma ,", "at @", "word C", "colon :", "quoted \"d e\"", "at @", "bracket [1.2.3.4]")
	wantTokens(t, api.BookPart, "a@[IPv6:::1]", "", "word a", "at @", "bracket [IPv6:::1]")
	wantTokens(t, api.BookPart, "a@[::1]", "[::1]", "word a", "at @")
	wantTokens(t, api.BookPart, "\"a\"b\"c", "\"c", "quoted \"a\"", "word b")
	wantTokens(t, api.BookPart, "::,,", "", "colon :", "colon :", "comma ,", "comma ,")
}

func TestReplies(t *testing.T) {
	x := tableOf(t, api.BookReply)
	for n := range 1100 {
		code := strconv.Itoa(n)
		code = strings.Repeat("0", max(0, 3-len(code))) + code
		more, last := none, none
		if n >= 200 && n <= 599 {
			more, last = "more", "last"
		}
		wantBy(t, x, more, code+"-", code+"-ok", code+"- ", code+"--")
		wantBy(t, x, last, code+" ", code+" ok", code+"  ", code+" -")
		wantBy(t, x, none, code, code+"\t", code+"\tok", code+"ok", code[:2], code[:2]+" ok", code+"0 ok", code+".1 ok", " "+code+" ok", code+"_")
	}
	for c := range 256 {
		s := string([]byte{byte(c)})
		more, last := none, none
		if c >= ' ' && c <= '~' || c == '\t' {
			more, last = "more", "last"
		}
		wantBy(t, x, more, "250-"+s, "250-a"+s, "250-"+s+"a")
		wantBy(t, x, last, "250 "+s, "250 a"+s, "250 "+s+"a")
		if c != '-' && c != ' ' {
			wantBy(t, x, none, "250"+s, "250"+s+"a")
		}
	}
	wantBook(t, api.BookReply, map[string][]string{
		"more": {"250-a", "250-mx.org hello", "250-\t", "250-\t \t", "220-" + strings.Repeat("x", 501), "599-" + strings.Repeat("\t ~", 5000)},
		"last": {"354 go on", "421 too slow", "250 \t", "220 " + strings.Repeat("x", 501), "200 " + strings.Repeat("\t ~", 5000)},
		none:   {"", " ", "-", "2", "25", "250", "2 50 a", "25 0", "a50 b", "2a0 b", "25a b", "-250 a", "+250 a", "250\u00a0a", "250 \x00", "250 a\r\n", "250 a\n", "250 a\r", "250-\x00", "250-\x7f", "250 \x80", "250 \u00e4", "/50 a", "600 a", "199 a", "100 a", "150 a", "000 a"},
	})
	wantTokens(t, api.BookReply, "250-a\r\n", "\r\n", "more 250-a")
	wantTokens(t, api.BookReply, "250 250-", "", "last 250 250-")
}
