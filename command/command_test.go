package command

import (
	"reflect"
	"slices"
	"strconv"
	"strings"
	"testing"

	"franking/api"
)

// short answers the beginning of a text that is long, in quotes.
func short(s string) string {
	if len(s) > 600 {
		return strconv.Quote(s[:200]) + " and so on, " + strconv.Itoa(len(s)) + " in all"
	}
	return strconv.Quote(s)
}

// often answers a text, as often as is told.
func often(s string, many int) string { return strings.Repeat(s, many) }

// same tells whether two commands are the same; no list is the same as an empty one.
func same(c, d api.Cmd) bool {
	return c.Verb == d.Verb && c.Arg == d.Arg && c.Path.Null == d.Path.Null && c.Path.Box == d.Path.Box &&
		slices.Equal(c.Path.Route, d.Path.Route) && slices.Equal(c.Params, d.Params)
}

// cmd answers a command of an argument, or of none.
func cmd(verb uint8, arg string) api.Cmd { return api.Cmd{Verb: verb, Arg: arg} }

// toBox answers a path to a mailbox.
func toBox(local, domain string, route ...string) api.Path {
	return api.Path{Route: route, Box: api.Mailbox{Local: local, Domain: domain}}
}

// null and alone answer the paths that one of both verbs alone takes.
func null() api.Path { return api.Path{Null: true} }

func alone() api.Path { return toBox("postmaster", "") }

// mail and rcpt answer commands of a path, and parameters.
func mail(p api.Path, l ...api.Param) api.Cmd {
	return api.Cmd{Verb: api.VerbMail, Path: p, Params: l}
}

func rcpt(p api.Path, l ...api.Param) api.Cmd {
	return api.Cmd{Verb: api.VerbRcpt, Path: p, Params: l}
}

// key and with answer parameters without a value, and of one.
func key(k string) api.Param { return api.Param{Key: k} }

func with(k, v string) api.Param { return api.Param{Key: k, Value: v, Has: true} }

// wantCmd holds what a line says, that it is right, and that it is printed as a line that says the same.
func wantCmd(t testing.TB, line string, want api.Cmd) {
	t.Helper()
	c, err := Parse(line)
	if !same(c, want) || err != api.OK {
		t.Errorf("Parse of %s: %+v, %d; want %+v", short(line), c, err, want)
	}
	s, err := Print(want)
	if !Right(want) || err != api.OK || len(s) > len(line) {
		t.Errorf("Print of %+v: %t, %s, %d", want, Right(want), short(s), err)
	}
	if c, err = Parse(s); !same(c, want) || err != api.OK {
		t.Errorf("Parse of %s: %+v, %d; want %+v", short(s), c, err, want)
	}
	// A blank more says something else, or nothing.
	if c, err = Parse(line + " "); err == api.OK && same(c, want) {
		t.Errorf("Parse of %s and a blank: %+v", short(line), c)
	}
}

// wantPrinted holds a command's line, and that it is read as the command.
func wantPrinted(t testing.TB, c api.Cmd, want string) {
	t.Helper()
	if s, err := Print(c); s != want || err != api.OK || !Right(c) {
		t.Errorf("Print of %+v: %t, %s, %d; want %s", c, Right(c), short(s), err, short(want))
	}
	wantCmd(t, want, c)
}

// wantError holds that lines say nothing, by which error, and that nothing is told beside it.
func wantError(t testing.TB, want api.Errno, lines ...string) {
	t.Helper()
	for _, line := range lines {
		if c, err := Parse(line); !reflect.DeepEqual(c, api.Cmd{}) || err != want {
			t.Errorf("Parse of %s: %+v, %d; want %d", short(line), c, err, want)
		}
	}
}

// wantWrong holds that a command may not be told, and so is not printed.
func wantWrong(t testing.TB, c api.Cmd) {
	t.Helper()
	if s, err := Print(c); Right(c) || s != "" || err != api.ErrArg {
		t.Errorf("Print of %+v: %t, %s, %d", c, Right(c), short(s), err)
	}
}

// chapterWords are the chapter's words, in the order of the verbs' numbers, from 1 on.
const chapterWords = "HELO EHLO MAIL RCPT DATA RSET VRFY EXPN NOOP HELP QUIT"

// named answers the verb whose word begins a text.
func named(s string) uint8 {
	return uint8(strings.Index(chapterWords, strings.ToUpper(s[:4]))/5 + 1)
}

// verbs answers each verb's word, and what may stand behind it, with the blank ahead.
func verbs() map[string]string {
	return map[string]string{
		"HELO": " a.b", "EHLO": " [1.2.3.4]", "MAIL": " FROM:<>", "RCPT": " TO:<a@b> X=1", "DATA": "", "RSET": "", "VRFY": " a", "EXPN": "  ", "NOOP": " ~ ", "HELP": "", "QUIT": "",
	}
}

// isLetter tells whether a byte is one of A to Z and a to z.
func isLetter(b string) bool { return b >= "A" && b <= "Z" || b >= "a" && b <= "z" }

// cases answers a word in great letters, in small ones, and in both.
func cases(word string) []string {
	lower := strings.ToLower(word)
	return []string{word, lower, word[:1] + lower[1:], lower[:1] + word[1:], lower[:2] + word[2:], word[:3] + lower[3:]}
}

func TestExamples(t *testing.T) {
	wantCmd(t, "mail from:<A@B.c> size=9 BODY", mail(toBox("A", "b.c"), with("SIZE", "9"), key("BODY")))
	wantCmd(t, "EHLO X.y", cmd(api.VerbEhlo, "x.y"))
	wantCmd(t, "NOOP", cmd(api.VerbNoop, ""))
	wantCmd(t, "NOOP a  b", cmd(api.VerbNoop, "a  b"))
	wantError(t, api.ErrSyntax, "NOOP ", "MAIL FROM: <>", "DATA x", "RCPT TO:<>", "MAIL FROM:<postmaster>")
	wantError(t, api.ErrVerb, "HELOx", "")
}

// P16.2: the word of each number.
func TestWord(t *testing.T) {
	of := strings.Fields(chapterWords)
	for verb := range 256 {
		want := ""
		if verb >= 1 && verb <= 11 {
			want = of[verb-1]
		}
		if got := Word(uint8(verb)); got != want {
			t.Errorf("Word of %d: %q; want %q", verb, got, want)
		}
	}
}

// P16.1, P16.3: each word, letters great or small, with what stands behind it.
func TestWords(t *testing.T) {
	for i, word := range strings.Fields(chapterWords) {
		behind := verbs()[word]
		for _, s := range cases(word) {
			c, err := Parse(s + behind)
			if c.Verb != uint8(i+1) || err != api.OK {
				t.Errorf("Parse of %q: %+v, %d", s+behind, c, err)
			}
			wantCmd(t, s+behind, c)
			if d, _ := Parse(word + behind); !same(c, d) {
				t.Errorf("Parse of %q: %+v; and of %q: %+v", s, c, word, d)
			}
			free := i >= 6 && i <= 9
			for more, ok := range map[string]bool{"": i == 4 || i == 5 || i >= 8, " ": false, "  ": free, "   ": free, " \x01": false, " \xff": false, "  a": free, " ?": free, " a b": free, " a": free || i < 2, " a ": free, "  a b  ": free} {
				want := api.ErrSyntax
				if ok {
					want = api.OK
				}
				if c, err := Parse(s + more); err != want || ok && c.Verb != uint8(i+1) {
					t.Errorf("Parse of %q: %+v, %d; want %d", s+more, c, err, want)
				}
			}
		}
	}
}

// P16.1: what is no word, but nearly one.
func TestNoWords(t *testing.T) {
	for word, behind := range verbs() {
		for _, s := range cases(word) {
			for c := range 256 {
				b := string([]byte{byte(c)})
				if b != " " {
					wantError(t, api.ErrVerb, s+b+behind, s+b)
				}
				wantError(t, api.ErrVerb, b+s+behind, s[:2]+b+s[2:]+behind, s[:3]+b+s[3:])
				for at := range s {
					if b == " " || isLetter(b) {
						continue // of four letters there may be another word
					}
					wantError(t, api.ErrVerb, s[:at]+b+s[at+1:]+behind)
				}
			}
			for at := range len(s) {
				wantError(t, api.ErrVerb, s[:at]+behind, s[:at]+s[at+1:]+behind, s[:at], s[at+1:])
			}
			wantError(t, api.ErrVerb, " "+s+behind, "  "+s, s+s+behind, s+"\t"+behind, s+"\r\n", s+"\x00", "\n"+s, s+":"+behind, s+"-"+behind, "\""+s+"\"")
		}
	}
	// Letters that some call great or small forms of others.
	wantError(t, api.ErrVerb, "R\u017fET", "r\u017fet", "\uff28ELO a", "QU\u0130T", "qu\u0131t", "\u212aUIT", "HE\u04be", "DAT\u00c4", "DAT\u0391")
	wantError(t, api.ErrVerb, "", " ", "  ", " NOOP", "  NOOP", " a", "\x00", "\xff", "\t", "\r\n", "A", "a b c", "STARTTLS", "AUTH PLAIN", "BDAT 1 LAST", "LHLO a", "SEND FROM:<>", "SOML", "SAML", "TURN", "FROM:<>", "TO:<a@b>", "MAILFROM:<>", "RCPTTO:<a@b>", "MAIL\tFROM:<>", "QUITQUIT", "NOOP\tx", "250 ok", ".")
}

// P16.1: 510 bytes of a line and 511; too long counts ahead of all else, and no verb ahead of what stands behind.
func TestLong(t *testing.T) {
	for word, behind := range verbs() {
		switch word {
		case "VRFY", "EXPN", "NOOP", "HELP":
			wantPrinted(t, cmd(named(word), often("x", 505)), word+" "+often("x", 505))
			wantPrinted(t, cmd(named(word), often(" ", 505)), word+" "+often(" ", 505))
		default:
			wantError(t, api.ErrSyntax, word+" "+often("x", 505), word+" "+often(" ", 505))
		}
		for _, many := range []int{511, 512, 513, 600, 1000, 1021, 1022, 65536 + 4, 1 << 20} {
			wantError(t, api.ErrLong, word+" "+often("x", many-5), word+often(" ", many-4), word+" "+often("\xff", many-5), word+often("x", many-4), word+behind+often(" ", many-len(word+behind)), often(" ", many), often("x", many), often("\x00", many), often(word+behind, many))
		}
		wantError(t, api.ErrVerb, word+often("x", 506), " "+word+often(" ", 505), often("x", 510), often(" ", 510), often("\x00", 510), "x "+often("\xff", 508), "x", "x \xff", "x FROM:<a", word+"\x00 \xff", word+"x FROM:<>")
		wantError(t, api.ErrSyntax, word+" "+often("\xff", 505), word+" \xff", word+" \x1f")
	}
	for word, head := range heads() {
		line := word + head + "<a@b> K"
		room := 510 - len(line)
		c := api.Cmd{Verb: named(word), Path: toBox("a", "b"), Params: []api.Param{key("K" + often("K", room))}}
		wantPrinted(t, c, line+often("K", room))
		wantError(t, api.ErrLong, line+often("K", room+1), line+often("K", room)+" ", line+often("K", room)+"_")
		c.Params[0] = with("K", often("v", room-1))
		wantPrinted(t, c, line+"="+often("v", room-1))
		wantError(t, api.ErrLong, line+"="+often("v", room), line+"="+often("v", room-1)+"=")
	}
}

// P16.1: a domain or a path beyond the limits, within a line that is not, is no error of its own.
func TestBeyond(t *testing.T) {
	label, most := often("a", 64), often("a", 63)
	domain := strings.TrimSuffix(often("a.", 128), ".")
	for _, s := range []string{domain, most, most + "." + most + "." + most + "." + most} {
		wantPrinted(t, cmd(api.VerbHelo, s), "HELO "+s)
		wantPrinted(t, cmd(api.VerbEhlo, s), "EHLO "+s)
		wantPrinted(t, rcpt(toBox("a", s)), "RCPT TO:<a@"+s+">")
	}
	for _, s := range []string{domain + ".a", domain + "b.c", label, "b." + label + ".c", often(most+".", 4) + "a"} {
		wantError(t, api.ErrSyntax, "HELO "+s, "EHLO "+s, "MAIL FROM:<a@"+s+">", "RCPT TO:<a@"+s+">", "RCPT TO:<@"+s+":a@b>", "MAIL FROM:<a@"+s+"> X=1")
	}
}

// P16.1: of whom HELO and EHLO tell.
func TestHello(t *testing.T) {
	for _, domain := range []string{"a", "A", "x.y", "X.Y-z.0", "1.2.3.4", "a--b.C", "256.1", "postmaster", "localhost", "IPv6", "ABCDEFGHIJKLM.NOPQRSTUVWXYZ", "abcdefghijklmnopqrstuvwxyz.0123456789", strings.ToUpper(often("k", 63)) + ".m"} {
		for _, word := range append(cases("HELO"), cases("EHLO")...) {
			wantCmd(t, word+" "+domain, cmd(named(word), strings.ToLower(domain)))
		}
	}
	for _, words := range []string{"1.2.3.4", "255.255.255.255", "001.02.3.000", "IPv6:::", "ipv6:A::B", "IPV6:1:2:3:4:5:6:7:F", "iPv6:::aBc"} {
		for _, word := range cases("EHLO") {
			wantCmd(t, word+" ["+words+"]", cmd(api.VerbEhlo, "["+strings.ToLower(words)+"]"))
		}
		for _, s := range []string{"[" + words, words + "]", "[[" + words + "]]", "[" + words + "]]", "[[" + words + "]", "[ " + words + "]", "[" + words + " ]", "[" + words + "] ", " [" + words + "]", "[" + words + "].a", "a.[" + words + "]", "[" + words + "]x", "[" + words + "] X", "[" + words[:len(words)/2] + "]", "<" + words + ">", "(" + words + ")", "[" + words + "\x00]", "]" + words + "["} {
			wantError(t, api.ErrSyntax, "HELO "+s, "EHLO "+s)
		}
		wantError(t, api.ErrSyntax, "HELO ["+words+"]")
		if strings.Contains(words, ":") {
			wantError(t, api.ErrSyntax, "HELO "+words, "EHLO "+words)
		}
	}
	for _, s := range []string{"", " ", "  ", " a", "a ", "a b", "a  b", "a X=1", ".", "a.", ".a", "a..b", "-a", "a-", "a_b", "a@b", "<a>", "<>", "a,b", "a:b", "[", "]", "[]", "[a]", "[a.b]", "[1.2.3]", "[1.2.3.4.5]", "[1.2.3.256]", "[IPv6:]", "[IPv6::]", "[::1]", "[]]", "[[]", "][", "\"a\"", "a\t", "\ta", "a\r\n", "a\x00", "\x00", "\u00e4", "\xff", "a\x7f", "FROM:<>"} {
		wantError(t, api.ErrSyntax, "HELO "+s, "EHLO "+s, "helo "+s, "ehlo "+s)
	}
	wantError(t, api.ErrSyntax, "HELO", "EHLO", "helo", "eHLo")
}

// heads are MAIL and RCPT, each with the letters ahead of its path.
func heads() map[string]string { return map[string]string{"MAIL ": "FROM:", "RCPT ": "TO:"} }

// P16.1: what stands ahead of a path.
func TestHeads(t *testing.T) {
	for word, head := range heads() {
		c := api.Cmd{Verb: named(word), Path: toBox("a", "b")}
		for _, s := range []string{head, strings.ToLower(head), head[:1] + strings.ToLower(head[1:]), strings.ToLower(head[:1]) + head[1:]} {
			wantCmd(t, word+s+"<a@b>", c)
			letters := s[:len(s)-1]
			for _, wrong := range []string{letters, letters + " :", letters + ": ", letters + ":  ", " " + s, "  " + s, letters + " ", letters + "\t:", letters + ":\t", letters + "::", letters + ";", letters + "=", letters[1:] + ":", letters[:1] + ":", ":", "", letters + "x:", "x" + s, letters + letters + ":", s + s, s + "<", letters + "\x00:", letters + "\xba", s + "\"", "<" + s} {
				wantError(t, api.ErrSyntax, word+wrong+"<a@b>")
			}
			wantError(t, api.ErrSyntax, word+s, word+letters, word+s+" ", word+letters[:1], word[:4], word, word+s+"a@b", word+s+"<a@b", word+s+"a@b>", word+"<a@b>", word+s+"<a@b>"+s)
		}
		for at := range len(head) {
			for b := range 256 {
				if s := head[:at] + string([]byte{byte(b)}) + head[at+1:]; b >= 128 || strings.ToUpper(s) != head {
					wantError(t, api.ErrSyntax, word+s+"<a@b>")
				}
			}
		}
	}
	wantError(t, api.ErrSyntax, "MAIL TO:<a@b>", "RCPT FROM:<a@b>", "MAIL to:<>", "RCPT from:<a@b>", "MAIL FROM:<a@b> TO:<c@d>", "MAIL FR\u00d6M:<>", "RCPT \u01ad\u00f3:<a@b>", "MAIL FROM<>", "RCPT TO<a@b>")
}

// P16.1: paths, the two that one of both verbs alone takes among them.
func TestPaths(t *testing.T) {
	for s, p := range map[string]api.Path{
		"<a@b>":                            toBox("a", "b"),
		"<A.B@C.D>":                        toBox("A.B", "c.d"),
		"<postmaster@A>":                   toBox("postmaster", "a"),
		"<Postmaster@a>":                   toBox("Postmaster", "a"),
		"<@x:postmaster@a>":                toBox("postmaster", "a", "x"),
		"<@Q:a@b>":                         toBox("a", "b", "q"),
		"<@q,@R.s:a@b>":                    toBox("a", "b", "q", "r.s"),
		`<"a b"@c>`:                        toBox("a b", "c"),
		`<"a  b> X=1"@c>`:                  toBox("a  b> X=1", "c"),
		`<" "@c>`:                          toBox(" ", "c"),
		`<">"@c>`:                          toBox(">", "c"),
		`<"\> \"\\"@c>`:                    toBox(`> "\`, "c"),
		`<"<>"@c>`:                         toBox("<>", "c"),
		`<""@c>`:                           toBox("", "c"),
		`<"postmaster"@c>`:                 toBox("postmaster", "c"),
		`<"a@b>"@c>`:                       toBox("a@b>", "c"),
		"<a@[1.2.3.4]>":                    {Box: api.Mailbox{Local: "a", Domain: "1.2.3.4", Literal: true}},
		"<@h:a@[IPv6:A::]>":                {Route: []string{"h"}, Box: api.Mailbox{Local: "a", Domain: "ipv6:a::", Literal: true}},
		"<" + often("a", 64) + "@b>":       toBox(often("a", 64), "b"),
		"<@" + often("a,@", 19) + "a:b@c>": toBox("b", "c", strings.Fields(often("a ", 20))...),
	} {
		wantCmd(t, "MAIL FROM:"+s, mail(p))
		wantCmd(t, "rcpt to:"+s, rcpt(p))
		wantCmd(t, "mail from:"+s+" k=v L", mail(p, with("K", "v"), key("L")))
		wantCmd(t, "RCPT TO:"+s+" k=v L", rcpt(p, with("K", "v"), key("L")))
	}
	wantCmd(t, "MAIL FROM:<>", mail(null()))
	wantCmd(t, "MAIL FROM:<> X=1 Y", mail(null(), with("X", "1"), key("Y")))
	wantError(t, api.ErrSyntax, "RCPT TO:<>", "RCPT TO:<> X", "rcpt to:<> a=b", "RCPT TO:<> ")
	for _, s := range []string{"<postmaster>", "<Postmaster>", "<POSTMASTER>", "<pOSTmASTER>"} {
		wantCmd(t, "RCPT TO:"+s, rcpt(alone()))
		wantCmd(t, "RCPT TO:"+s+" x=y", rcpt(alone(), with("X", "y")))
		wantError(t, api.ErrSyntax, "MAIL FROM:"+s, "MAIL FROM:"+s+" X", "mail from:"+s+" a=b")
	}
	for _, s := range []string{
		"", "<", ">", "< >", "<<>>", "<a>", "<a@>", "<@b>", "a@b", "<a@b", "a@b>", "<a b@c>", "<a@b c>", "<a@ b>", "< a@b>", "<a@b >", "<a@b>>", "<<a@b>", "<a@b><c@d>", "<a@b>,<c@d>", "<a..b@c>", "<a@-b>", "<a@b_>", "<a@[1.2.3]>", "<@a@b>", "<@a b@c>", "<@a:postmaster>", "<postmaster@>", "<\"postmaster\">", "<\"a@b>", "<\"a\\\"@b>", "<\"\x7f\"@b>", "<a@b>\x00", "<a@b>\r\n", "<>x", "<>>", "<> >", "<a@b>x", "<postmaster>x",
		"<" + often("a", 65) + "@b>", "<\"" + often(" ", 65) + "\"@b>", "<a@" + often("b", 64) + ">", "<a@" + often("b.", 128) + "b>", "<@" + often("a,@", 20) + "a:b@c>", "<@" + often("c", 64) + ":a@b>", "<" + often("a", 65) + "@b> X=1",
	} {
		wantError(t, api.ErrSyntax, "MAIL FROM:"+s, "RCPT TO:"+s)
	}
}

// ahead are lines that parameters may stand behind, each with what is said without them.
func ahead() map[string]api.Cmd {
	return map[string]api.Cmd{
		"MAIL FROM:<>": mail(null()), "mail from:<a@b>": mail(toBox("a", "b")), "RCPT TO:<postmaster>": rcpt(alone()), "RCPT TO:<\"> X=\"@B>": rcpt(toBox("> X=", "b")),
	}
}

// wantParams holds what are read as parameters.
func wantParams(t testing.TB, s string, want ...api.Param) {
	t.Helper()
	for line, c := range ahead() {
		c.Params = want
		wantCmd(t, line+s, c)
	}
}

// wantNoParams holds that something is no parameters.
func wantNoParams(t testing.TB, l ...string) {
	t.Helper()
	for line := range ahead() {
		for _, s := range l {
			wantError(t, api.ErrSyntax, line+s)
		}
	}
}

// P16.1: how many parameters, and what stands between them.
func TestParams(t *testing.T) {
	wantParams(t, "")
	wantParams(t, " A", key("A"))
	wantParams(t, " a=b", with("A", "b"))
	wantParams(t, " size=9 BODY", with("SIZE", "9"), key("BODY"))
	wantParams(t, " A A a", key("A"), key("A"), key("A"))
	wantParams(t, " A=1 a=2 A A=1", with("A", "1"), with("A", "2"), key("A"), with("A", "1"))
	wantParams(t, " c b=x a", key("C"), with("B", "x"), key("A"))
	wantParams(t, " SIZE=1000 body=8bitMIME smtputf8 ENVID=QQ+3D ret=HDRS", with("SIZE", "1000"), with("BODY", "8bitMIME"), key("SMTPUTF8"), with("ENVID", "QQ+3D"), with("RET", "HDRS"))
	var many []api.Param
	s := ""
	for i := range 60 {
		many, s = append(many, with("K"+strconv.Itoa(i), "v")), s+" k"+strconv.Itoa(i)+"=v"
		wantParams(t, s, many...)
	}
	wantParams(t, often(" x", 240), slices.Repeat([]api.Param{key("X")}, 240)...)
	wantNoParams(t, " ", "  ", "   ", "A", "A=b", "=", " =", " =b", " ==", "  A", "  A=b", " A ", " A  ", " A=b ", " A  B", " A=1  B=2", "\tA", " \tA", " A\t", " A\tB", " A=b\tC", " A\r\n", " A\x00", " A =b", " A= b", " A = b", " A=", " A= ", " A= B", " A==", " A==b", " A=b=", " A=b=c", " A=b=c D", " A=b D=", " A= D=b", ",A", " A,B", " A;B", " A:b", " A/b", " a.b", " \"A\"", " A\\", " <a@b>", ">", " >", "A B", "a=b c=d")
}

// P16.1: what keys are of.
func TestKeys(t *testing.T) {
	for _, s := range []string{"A", "z", "0", "9", "1A", "9-", "A-", "A--", "A-B", "A--B-", "8BITMIME", "x-y-z", "abc", "aBc", "0-0", "a1b2", often("k", 200), often("K-", 100)} {
		great := strings.ToUpper(s)
		wantParams(t, " "+s, key(great))
		wantParams(t, " "+s+"=v", with(great, "v"))
		wantParams(t, " x "+s+" y=z "+s+"=v", key("X"), key(great), with("Y", "z"), with(great, "v"))
		wantNoParams(t, " -"+s, " -"+s+"=v", " "+s+"_", "_"+s, " "+s+"= ", " X -"+s)
	}
	wantNoParams(t, " -", " --", " -=a", " -A", " -1", " -=", " _", " A_B", " A_", " _A", " A_=b", " \u00e4", " A\u00e4", " A\xff", " \x00", " K\u212a", " \u017f")
	for c := range 256 {
		b := string([]byte{byte(c)})
		letDig := b >= "0" && b <= "9" || isLetter(b)
		if letDig {
			wantParams(t, " "+b, key(strings.ToUpper(b)))
			wantParams(t, " "+b+b+"=v", with(strings.ToUpper(b+b), "v"))
		} else {
			wantNoParams(t, " "+b, " "+b+"A", " "+b+"=v", " X "+b)
		}
		switch {
		case letDig || b == "-":
			wantParams(t, " A"+b+"=v", with("A"+strings.ToUpper(b), "v"))
			wantParams(t, " A"+b+"9", key("A"+strings.ToUpper(b)+"9"))
		case b == " ":
			wantParams(t, " A"+b+"B", key("A"), key("B"))
		case b == "=":
			wantParams(t, " A"+b+"B", with("A", "B"))
		default:
			wantNoParams(t, " A"+b, " A"+b+"B", " A"+b+"=v")
		}
	}
}

// P16.1: what values are of.
func TestValues(t *testing.T) {
	for c := range 256 {
		b := string([]byte{byte(c)})
		switch {
		case c >= 33 && c <= 126 && b != "=":
			for _, s := range []string{b, b + b, "v" + b, b + "v", "v" + b + "w"} {
				wantParams(t, " k="+s, with("K", s))
				wantParams(t, " K="+s+" L", with("K", s), key("L"))
			}
		case b == " ":
			wantParams(t, " K=v"+b+"W", with("K", "v"), key("W"))
			wantNoParams(t, " K="+b, " K=v"+b, " K="+b+"v")
		default:
			wantNoParams(t, " K="+b, " K=v"+b, " K="+b+"v", " K=v"+b+"w", " K=v"+b+" L", " K="+b+b)
		}
	}
	wantParams(t, " a="+often("~", 400), with("A", often("~", 400)))
	wantParams(t, " a=-", with("A", "-"))
	wantParams(t, " a=<>\"\\>", with("A", "<>\"\\>"))
	wantParams(t, " a=bC b=Bc", with("A", "bC"), with("B", "Bc"))
	wantNoParams(t, " A=\u00e4", " A=v\u00e4", " A=\"v w\"x=", " A=", " A= B")
}

// P16.1: what is said freely.
func TestFree(t *testing.T) {
	for _, verb := range []uint8{api.VerbVrfy, api.VerbExpn, api.VerbNoop, api.VerbHelp} {
		word := Word(verb)
		for c := range 256 {
			b := string([]byte{byte(c)})
			for _, s := range []string{b, b + b, "a" + b, b + "a", "a" + b + "c", " " + b, b + " "} {
				if c >= 32 && c <= 126 {
					wantPrinted(t, cmd(verb, s), word+" "+s)
					wantCmd(t, strings.ToLower(word)+" "+s, cmd(verb, s))
				} else {
					wantError(t, api.ErrSyntax, word+" "+s)
				}
			}
		}
		for n := range 500 {
			s := often(" ", n+1)
			wantPrinted(t, cmd(verb, s), word+" "+s)
		}
		for _, s := range []string{"a@b", "<a@b>", "FROM:<>", "HELO", "Great and small", "a=b", "[1.2.3.4]", "\"\\", often("~", 505)} {
			wantPrinted(t, cmd(verb, s), word+" "+s)
		}
		wantError(t, api.ErrSyntax, word+" ", word+" a\r\n", word+" a\x00", word+" \u00e4", word+" \xffa", word+" \x7f", word+" \x1f", word+" a\tb")
	}
	wantError(t, api.ErrSyntax, "VRFY", "EXPN", "vrfy", "exPN")
	wantPrinted(t, cmd(api.VerbNoop, ""), "NOOP")
	wantPrinted(t, cmd(api.VerbHelp, ""), "HELP")
	wantWrong(t, cmd(api.VerbVrfy, ""))
	wantWrong(t, cmd(api.VerbExpn, ""))
}

// P16.1: what has nothing behind it, no blank either.
func TestNothingBehind(t *testing.T) {
	for _, verb := range []uint8{api.VerbData, api.VerbRset, api.VerbQuit} {
		for _, s := range cases(Word(verb)) {
			wantCmd(t, s, cmd(verb, ""))
			wantError(t, api.ErrSyntax, s+" ", s+"  ", s+" x", s+"  x", s+" "+s, s+" \x00", s+" "+often(" ", 505), s+" FROM:<>", s+" a.b", s+" X=1")
			wantError(t, api.ErrVerb, s+"\t", s+"x", s+"\r\n", s+"\x00", " "+s)
		}
		wantPrinted(t, cmd(verb, ""), Word(verb))
	}
}

// P16.2, P16.3: what may be told is printed in the table's words.
func TestPrint(t *testing.T) {
	for want, c := range map[string]api.Cmd{
		"HELO a":                        cmd(api.VerbHelo, "a"),
		"HELO 1.2.3.4":                  cmd(api.VerbHelo, "1.2.3.4"),
		"EHLO a-b.c":                    cmd(api.VerbEhlo, "a-b.c"),
		"EHLO [1.2.3.4]":                cmd(api.VerbEhlo, "[1.2.3.4]"),
		"EHLO [ipv6:a::]":               cmd(api.VerbEhlo, "[ipv6:a::]"),
		"MAIL FROM:<>":                  mail(null()),
		"MAIL FROM:<> A":                mail(null(), key("A")),
		"MAIL FROM:<A@b> A=b B=A A-":    mail(toBox("A", "b"), with("A", "b"), with("B", "A"), key("A-")),
		"MAIL FROM:<@c,@d:\"a b\"@b> 0": mail(toBox("a b", "b", "c", "d"), key("0")),
		"RCPT TO:<postmaster>":          rcpt(alone()),
		"RCPT TO:<postmaster> A=~":      rcpt(alone(), with("A", "~")),
		"RCPT TO:<a@b>":                 rcpt(toBox("a", "b")),
		"RCPT TO:<@x:\"\\\"\"@b> A B=c": rcpt(toBox(`"`, "b", "x"), key("A"), with("B", "c")),
		"DATA":                          cmd(api.VerbData, ""),
		"RSET":                          cmd(api.VerbRset, ""),
		"VRFY  ":                        cmd(api.VerbVrfy, " "),
		"VRFY a B":                      cmd(api.VerbVrfy, "a B"),
		"EXPN ~":                        cmd(api.VerbExpn, "~"),
		"NOOP":                          cmd(api.VerbNoop, ""),
		"NOOP  a ":                      cmd(api.VerbNoop, " a "),
		"HELP":                          cmd(api.VerbHelp, ""),
		"HELP MAIL":                     cmd(api.VerbHelp, "MAIL"),
		"QUIT":                          cmd(api.VerbQuit, ""),
	} {
		wantPrinted(t, c, want)
		c.Params, c.Path.Route = append([]api.Param{}, c.Params...), append([]string{}, c.Path.Route...)
		wantPrinted(t, c, want) // an empty list and none are the same
	}
}

// P16.2: what may not be told.
func TestNotRight(t *testing.T) {
	for verb := range 256 {
		v := uint8(verb)
		if verb == 0 || verb > 11 {
			for _, c := range []api.Cmd{{Verb: v}, cmd(v, "a"), cmd(v, "NOOP"), cmd(v, " NOOP"), {Verb: v, Path: toBox("a", "b")}, {Verb: v, Path: null()}} {
				wantWrong(t, c)
			}
			continue
		}
		// What a verb may say, and what it has not.
		right, _ := Parse(Word(v) + verbs()[Word(v)])
		for _, spoil := range []func(c *api.Cmd){
			func(c *api.Cmd) { c.Path = toBox("a", "b") },
			func(c *api.Cmd) { c.Path.Null = true },
			func(c *api.Cmd) { c.Path = alone() },
			func(c *api.Cmd) { c.Path.Route = []string{"a"} },
			func(c *api.Cmd) { c.Path.Box.Local = "a" },
			func(c *api.Cmd) { c.Path.Box.Domain = "a" },
			func(c *api.Cmd) { c.Path.Box.Literal = true },
			func(c *api.Cmd) { c.Params = []api.Param{key("A")} },
			func(c *api.Cmd) { c.Params = []api.Param{{}} },
			func(c *api.Cmd) { c.Arg = "FROM:<>" },
			func(c *api.Cmd) { c.Arg = "TO:<a@b>" },
			func(c *api.Cmd) { c.Arg = " " },
			func(c *api.Cmd) { c.Arg = "a" },
			func(c *api.Cmd) { c.Arg = "" },
		} {
			c := right
			spoil(&c)
			if got, want := Right(c), plainRight(c); got != want {
				t.Errorf("Right of %+v: %t", c, got)
			}
			if !plainRight(c) {
				wantWrong(t, c)
			}
		}
	}
	for _, s := range []string{"A", "a.B", "", " ", " a", "a ", "a b", "-a", "a.", "a_", "[", "]", "[]", "[a]", "1.2.3.4]", "[1.2.3.4", "[1.2.3]", "[1.2.3.4] ", "[IPv6:::]", "[ipv6:A::]", "ipv6:::", often("a", 64), often("a.", 128) + "b", "a\x00", "\u00e4"} {
		wantWrong(t, cmd(api.VerbHelo, s))
		wantWrong(t, cmd(api.VerbEhlo, s))
	}
	wantWrong(t, cmd(api.VerbHelo, "[1.2.3.4]"))
	wantWrong(t, cmd(api.VerbHelo, "[ipv6:::]"))
	for _, verb := range []uint8{api.VerbData, api.VerbRset, api.VerbQuit} {
		for _, s := range []string{" ", "a", "\x00", Word(verb)} {
			wantWrong(t, cmd(verb, s))
		}
	}
	for _, verb := range []uint8{api.VerbVrfy, api.VerbExpn, api.VerbNoop, api.VerbHelp} {
		for _, s := range []string{"\x1f", "\x7f", "a\x00", "\xff", "a\r\n", "a\tb", "\u00e4", often("a", 506)} {
			wantWrong(t, cmd(verb, s))
		}
	}
}

// P16.2: paths and parameters that may not be told.
func TestNotSent(t *testing.T) {
	wantWrong(t, rcpt(null()))
	wantWrong(t, mail(alone()))
	wantWrong(t, rcpt(null(), key("A")))
	wantWrong(t, mail(alone(), key("A")))
	for _, p := range []api.Path{{}, {Null: true, Route: []string{"a"}}, {Null: true, Box: api.Mailbox{Local: "a", Domain: "b"}}, toBox("a", "B"), toBox("a", "b", "C"), toBox("a", "b", ""), toBox("a", ""), toBox("", ""), toBox("Postmaster", ""), toBox("postmaster", "", "a"), toBox("a", "1.2.3.4]"), toBox("a", "b>"), toBox("a", "b> X"), toBox("a\x7f", "b"), toBox(often("a", 65), "b"), toBox("a", often("b", 64)), toBox("a", "b", strings.Fields(often("c ", 21))...), {Box: api.Mailbox{Local: "a", Domain: "b", Literal: true}}, {Box: api.Mailbox{Local: "a", Domain: "ipv6:A::", Literal: true}}} {
		wantWrong(t, mail(p))
		wantWrong(t, rcpt(p))
		wantWrong(t, mail(p, key("A")))
		wantWrong(t, rcpt(p, with("A", "<a@b>")))
		wantWrong(t, api.Cmd{Verb: api.VerbMail, Arg: "FROM:<>", Path: p})
		wantWrong(t, api.Cmd{Verb: api.VerbRcpt, Arg: "TO:<a@b>", Path: p})
	}
	for _, p := range []api.Param{
		{}, key(" "), key("a"), key("Ab"), key("bA"), key("-"), key("-A"), key("A_"), key("_"), key("A "), key(" A"), key("A B"), key("A=b"), key("A="), key("="), key("A\x00"), key("\u00c4"), key("\xff"), key("A\r\n"), key("<>"),
		{Has: true}, with("", "v"), with("A", ""), with("a", "v"), with("A", " "), with("A", "v "), with("A", " v"), with("A", "v w"), with("A", "v W=x"), with("A", "="), with("A", "v="), with("A", "=v"), with("A", "\x1f"), with("A", "\x7f"), with("A", "v\x00"), with("A", "\u00e4"), with("-A", "v"), with("A B", "v"), with("A=b", "v"),
		{Key: "A", Value: "v"}, {Key: "A", Value: "A"}, {Value: "v"}, {Key: "A", Value: " "}, {Key: "A", Value: "\x00"},
	} {
		for _, c := range ahead() {
			for _, l := range [][]api.Param{{p}, {key("A"), p}, {p, key("A")}, {with("A", "v"), p, with("B", "w")}} {
				c.Params = l
				wantWrong(t, c)
			}
		}
	}
}

// P16.2: lines that would have more than 510 bytes.
func TestNotShort(t *testing.T) {
	route := strings.Fields(often(often("r", 18)+" ", 20))
	for i, of := range []func(s string) api.Cmd{
		func(s string) api.Cmd { return cmd(api.VerbVrfy, s) },
		func(s string) api.Cmd { return cmd(api.VerbExpn, s) },
		func(s string) api.Cmd { return cmd(api.VerbNoop, s) },
		func(s string) api.Cmd { return cmd(api.VerbHelp, s) },
		func(s string) api.Cmd { return mail(null(), key(s)) },
		func(s string) api.Cmd { return mail(null(), with("K", s)) },
		func(s string) api.Cmd { return rcpt(alone(), with(s, "V")) },
		func(s string) api.Cmd { return rcpt(toBox("a", "b"), key(s)) },
		func(s string) api.Cmd { return rcpt(toBox("a", "b"), key(s), key("K")) },
		func(s string) api.Cmd { return rcpt(toBox("a", "b"), with("K", "VV"), with(s, "V"), with("L", "W")) },
		func(s string) api.Cmd { return mail(toBox("a", "b", route...), key(s)) },
		func(s string) api.Cmd { return mail(toBox(often(`"`, 64), "b", "c"), with("K", s)) },
	} {
		last := 0 // of how many bytes the last one may be that grows
		for n := 1; n <= 1200; n++ {
			c := of(often("S", n))
			line := plainLine(c)
			switch {
			case len(line) > 510:
				wantWrong(t, c)
				continue
			case len(line) > 505:
				wantPrinted(t, c, line)
			case !Right(c):
				t.Errorf("Right of %+v", c)
			}
			last = n
		}
		if last < 50 || last > 505 {
			t.Errorf("%d: up to %d", i, last)
		}
	}
	all := strings.Fields(often(often("r", 60)+" ", 20))
	wantWrong(t, mail(toBox("a", "b", all...)))
	wantWrong(t, rcpt(toBox("a", "b", all...), key("A")))
}

// What is handed in is never changed, and two answers share nothing.
func TestOwnMemory(t *testing.T) {
	const line = "MAIL FROM:<@A,@b:c@d> x=1 Y"
	c, _ := Parse(line)
	d, err := Parse(line)
	if err != api.OK || len(c.Params) != 2 || len(c.Path.Route) != 2 {
		t.Fatal(c, err)
	}
	c.Params[0], c.Path.Route[1] = key("Z"), "z"
	want := mail(toBox("c", "d", "a", "b"), with("X", "1"), key("Y"))
	if !same(d, want) {
		t.Errorf("two answers share their lists: %+v", d)
	}
	spareRoute := append(make([]string, 0, 9), "a", "b", "spare")
	spareParams := append(make([]api.Param, 0, 9), with("X", "1"), key("Y"), key("SPARE"))
	in := mail(toBox("c", "d", spareRoute[:2]...), spareParams[:2]...)
	for range 2 {
		if s, err := Print(in); s != "MAIL FROM:<@a,@b:c@d> X=1 Y" || err != api.OK || !Right(in) {
			t.Error(s, err)
		}
	}
	if !slices.Equal(spareRoute, []string{"a", "b", "spare"}) || !slices.Equal(spareParams, []api.Param{with("X", "1"), key("Y"), key("SPARE")}) {
		t.Error("what was handed in:", spareRoute, spareParams)
	}
}

// R1: great lines, and commands of great and many parts, end soon.
func TestGreat(t *testing.T) {
	const great, many = 1 << 20, 1 << 16
	for _, s := range []string{" ", "x", "=", "<", "\"", "\\", "@a,", "NOOP ", " A=b", "\x00", "a.", "[", ":"} {
		all := often(s, great)
		for _, ahead := range []string{"", " ", "NOOP ", "HELO ", "EHLO [", "MAIL FROM:<", "RCPT TO:<a@b>", "MAIL FROM:<> A="} {
			wantError(t, api.ErrLong, ahead+all)
		}
		for verb := range 13 {
			wantWrong(t, api.Cmd{Verb: uint8(verb), Arg: all, Path: toBox(all, all, all), Params: []api.Param{with(all, all)}})
		}
		// Parts that are one shared text would make a line that there is no room for.
		l := slices.Repeat([]api.Param{with(all, all)}, many)
		wantWrong(t, mail(null(), l...))
		wantWrong(t, rcpt(toBox("a", "b"), l...))
		wantWrong(t, mail(toBox("a", "b", slices.Repeat([]string{all}, many)...)))
	}
	wantWrong(t, mail(null(), slices.Repeat([]api.Param{key("A")}, great)...))
	wantWrong(t, mail(toBox("a", "b", slices.Repeat([]string{"a"}, great)...)))
}
