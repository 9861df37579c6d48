package path

import (
	"slices"
	"strconv"
	"strings"
	"testing"

	"franking/api"
)

// short answers the beginning of a text that is long, in quotes.
func short(s string) string {
	if len(s) > 200 {
		return strconv.Quote(s[:200]) + " and so on, " + strconv.Itoa(len(s)) + " in all"
	}
	return strconv.Quote(s)
}

// long answers a text, as often as is told, with something between.
func long(s, between string, often int) string {
	return strings.TrimSuffix(strings.Repeat(s+between, often), between)
}

// same tells whether two paths are the same; no route is the same as an empty one.
func same(p, q api.Path) bool {
	return p.Null == q.Null && p.Box == q.Box && slices.Equal(p.Route, q.Route)
}

// box answers a path to a mailbox of a domain.
func box(local, domain string, route ...string) api.Path {
	return api.Path{Route: route, Box: api.Mailbox{Local: local, Domain: domain}}
}

// literal answers a path to a mailbox of a literal.
func literal(local, words string, route ...string) api.Path {
	return api.Path{Route: route, Box: api.Mailbox{Local: local, Domain: words, Literal: true}}
}

// wantRead holds the path that begins a text, and how many bytes it has.
func wantRead(t testing.TB, s string, want api.Path, many int) {
	t.Helper()
	p, n, err := Parse(s)
	if !same(p, want) || n != many || err != api.OK {
		t.Errorf("Parse of %s: %+v, %d, %d; want %+v, %d", short(s), p, n, err, want, many)
	}
	if !Right(p) {
		t.Errorf("of %s: %+v is not right", short(s), p)
	}
}

// wantPath holds what a path is read as, alone and with anything behind it, that no front of it is one, and, if it has a mailbox, what that is read as.
func wantPath(t testing.TB, s string, want api.Path) {
	t.Helper()
	for _, behind := range []string{"", ">", " ", "<>", s, "x", "\x00", "@a>", "\r\n"} {
		wantRead(t, s+behind, want, len(s))
	}
	for i := range min(len(s), 400) {
		wantError(t, s[:i], api.ErrPath)
	}
	wantError(t, s[:len(s)-1], api.ErrPath)
	if want.Null || want.Box.Domain == "" || len(want.Route) > 0 {
		return
	}
	inner := s[1 : len(s)-1]
	if m, err := Mailbox(inner); m != want.Box || err != api.OK {
		t.Errorf("Mailbox of %s: %+v, %d; want %+v", short(inner), m, err, want.Box)
	}
}

// wantError holds that no path begins a text, and by which error.
func wantError(t testing.TB, s string, want api.Errno) {
	t.Helper()
	if p, n, err := Parse(s); !same(p, api.Path{}) || p.Route != nil || n != 0 || err != want {
		t.Errorf("Parse of %s: %+v, %d, %d; want %d", short(s), p, n, err, want)
	}
}

// wantBoxError holds that a text is no mailbox, and in < and > no path, and by which error.
func wantBoxError(t testing.TB, s string, want api.Errno) {
	t.Helper()
	if m, err := Mailbox(s); m != (api.Mailbox{}) || err != want {
		t.Errorf("Mailbox of %s: %+v, %d; want %d", short(s), m, err, want)
	}
	if !strings.HasPrefix(s, ">") {
		wantError(t, "<"+s+">", want)
	}
}

// wantDomain holds whether a text is a domain within the limits, of itself, of a mailbox and of a route.
func wantDomain(t testing.TB, s string, err api.Errno) {
	t.Helper()
	if got := Domain(s); got != (err == api.OK) {
		t.Errorf("Domain of %s: %t", short(s), got)
	}
	if err != api.OK {
		wantBoxError(t, "a@"+s, err)
		wantError(t, "<@"+s+":a@b>", err)
		wantError(t, "<@c,@"+s+",@d:a@b>", err)
		return
	}
	small := strings.ToLower(s)
	wantPath(t, "<a@"+s+">", box("a", small))
	wantPath(t, "<@"+s+":a@b>", box("a", "b", small))
	wantPath(t, "<@c,@"+s+",@d:a@b>", box("a", "b", "c", small, "d"))
}

// wantLiteral holds whether a text is a literal's words, of itself and of a mailbox.
func wantLiteral(t testing.TB, is bool, words ...string) {
	t.Helper()
	for _, s := range words {
		if got := Literal(s); got != is {
			t.Errorf("Literal of %s: %t", short(s), got)
		}
		if !is {
			wantBoxError(t, "a@["+s+"]", api.ErrPath)
			continue
		}
		wantPath(t, "<a@["+s+"]>", literal("a", strings.ToLower(s)))
		wantPath(t, "<@b:\"\"@["+s+"]>", literal("", strings.ToLower(s), "b"))
		// A literal is no hop, and no domain without what it stands in.
		wantError(t, "<@["+s+"]:a@b>", api.ErrPath)
	}
}

// wantLocal holds that a local part is read, and as what it is meant.
func wantLocal(t testing.TB, local, meant string) {
	t.Helper()
	wantPath(t, "<"+local+"@X.y>", box(meant, "x.y"))
	wantPath(t, "<"+local+"@[1.2.3.4]>", literal(meant, "1.2.3.4"))
	wantPath(t, "<@H:"+local+"@x>", box(meant, "x", "h"))
}

func TestExamples(t *testing.T) {
	wantRead(t, "<A.b@X-1.Org> z", box("A.b", "x-1.org"), 13)
	wantRead(t, `<"a\"b c"@[127.0.0.1]>`, literal(`a"b c`, "127.0.0.1"), 22)
	wantRead(t, "<@a.b,@C:d@e>", box("d", "e", "a.b", "c"), 13)
	wantRead(t, "<>", api.Path{Null: true}, 2)
	wantRead(t, "<Postmaster>", box("postmaster", ""), 12)
	for _, s := range []string{"<a@b", "<a..b@c>", "<a@-b>", "<a@b_>", "<a@[1.2.3]>", "< a@b>"} {
		wantError(t, s, api.ErrPath)
	}
}

// P15.1: labels, dots and bytes of domains, ahead of their limits.
func TestDomains(t *testing.T) {
	for _, s := range []string{
		"a", "Z", "0", "9", "ab", "a1", "1a", "a.b", "A.B", "1.2.3.4", "256.1.1.1", "a-b", "a--b", "a-b-c", "a-1.b-2", "x-1.Org", "a.b.c.d.e.f", "com", "postmaster", "IPv6", "a-b--c---d", "xn--a-0",
	} {
		wantDomain(t, s, api.OK)
	}
	for _, s := range []string{
		"", ".", "..", "-", "--", "-a", "a-", "-a-", "a.-b", "a-.b", "a.b-", "-a.b", "a.-", "-.a", "a.-.b", "a..b", ".a", "a.", "a.b.", ".a.b", "a...b", "a_b", "_", "_a", "a_", "a.b_", "a b", " a", "a ", "a\t", "a@b", "a,b", "a:b", "a:", "a/b", "a+b", "a*", "[a]", "\"a\"", "(a)", "a(b)", "a\\", "a;", "!",
		"a\x00", "\x00", "a\r\n", "\u00e4", "a\u00e4", "\xff", "\x7f", "a\x80b", "\u212a", "\u017f.de", "a\u3002b",
	} {
		wantDomain(t, s, api.ErrPath)
	}
	for c := range 256 {
		b := string([]byte{byte(c)})
		letDig := strings.Contains(letDigs, b)
		for s, want := range map[string]bool{b: letDig, "a" + b: letDig, b + "a": letDig, "a" + b + "c": letDig || b == "-" || b == ".", "a." + b: letDig, "a" + b + ".c": letDig, "a.b" + b + "c": letDig || b == "-" || b == "."} {
			if got := Domain(s); got != want {
				t.Errorf("Domain of %q: %t", s, got)
			}
		}
	}
}

// P15.1: 63 bytes of a label, 255 of a domain, and those beyond.
func TestDomainLimits(t *testing.T) {
	most := long("a", "", 63)
	for s, err := range map[string]api.Errno{
		most:                                         api.OK,
		most + "a":                                   api.ErrLong,
		"x." + most:                                  api.OK,
		"x." + most + "a":                            api.ErrLong,
		most + "a.x":                                 api.ErrLong,
		"x." + most + "a.y":                          api.ErrLong,
		"x." + most + ".y":                           api.OK,
		long("-", "", 63):                            api.ErrPath,
		"a" + long("-", "", 61) + "a":                api.OK,
		"a" + long("-", "", 62) + "a":                api.ErrLong,
		"a" + long("-", "", 62):                      api.ErrPath,
		"a" + long("-", "", 90):                      api.ErrPath,
		long("a", "", 70) + "..b":                    api.ErrPath,
		long("a", "", 70) + ".b_":                    api.ErrPath,
		long(most, ".", 4):                           api.OK,
		long(most, ".", 4) + "a":                     api.ErrLong,
		"a" + long(most, ".", 4):                     api.ErrLong,
		long("a", ".", 128):                          api.OK,
		long("a", ".", 127) + "b":                    api.OK,
		long("a", ".", 127) + ".bc":                  api.ErrLong,
		long("a", ".", 129):                          api.ErrLong,
		long("a", ".", 129) + ".":                    api.ErrPath,
		long("a", ".", 129) + "..b":                  api.ErrPath,
		"." + long("a", ".", 129):                    api.ErrPath,
		long(most, ".", 3) + "." + long("b", "", 64): api.ErrLong,
		long(most, ".", 3) + "." + long("b", "", 63): api.OK,
		long("Ab", ".", 85):                          api.OK,
		long("Ab", ".", 85) + "c":                    api.OK,
		long("Ab", ".", 85) + "cd":                   api.ErrLong,
		long("a", "", 100000):                        api.ErrLong,
		long("a", ".", 100000):                       api.ErrLong,
		long("a", ".", 100000) + "-":                 api.ErrPath,
		long("a", "", 100000) + "_":                  api.ErrPath,
	} {
		wantDomain(t, s, err)
	}
}

// P15.1: four numbers.
func TestNumbers(t *testing.T) {
	wantLiteral(t, true, "1.2.3.4", "0.0.0.0", "255.255.255.255", "127.0.0.1", "00.00.00.00", "000.000.000.000", "001.02.3.004", "010.099.200.249", "192.168.1.254", "9.99.199.255", "09.08.07.06", "1.1.1.0")
	wantLiteral(t, false, "", ".", "...", "....", "1", "1.2", "1.2.3", "1.2.3.", ".1.2.3", "1..3.4", ".2.3.4", "1.2.3.4.", ".1.2.3.4", "1.2.3.4.5", "1.2..3.4", "1.2.3..4", "256.1.1.1", "1.256.1.1", "1.1.256.1", "1.1.1.256", "260.1.1.1", "300.1.1.1", "999.9.9.9", "1.1.1.999", "0001.1.1.1", "1.0000.1.1", "1.1.1.0255", "1000.1.1.1", "1.1.1.1000", "25555.1.1.1",
		"a.1.1.1", "1.1.1.a", "1.1.1.1a", "a1.1.1.1", "1.1.1.1 ", " 1.1.1.1", "1. 1.1.1", "+1.1.1.1", "-1.1.1.1", "1.-1.1.1", "1.1.1.-0", "0x1.1.1.1", "1.1.1.1f", "1_0.1.1.1", "1,1,1,1", "1:1:1:1", "1.2.3:4", "1.2.3.4\x00", "1.2.3.\u0664", "\u0661.2.3.4", "1.2.3.4]", "[1.2.3.4]", "a.b", "x.org", "1.2.3.4.5.6.7.8",
		long("1", "", 1000)+".1.1.1", long("1", ".", 1000), "1.1.1."+long("9", "", 100000), long("0", "", 100000)+".0.0.0")
	for n := range 1200 {
		s := strconv.Itoa(n)
		wantLiteral(t, n <= 255, "1."+s+".3.4")
		wantLiteral(t, n <= 255, "1.2.3."+s, s+".2.3.4")
	}
}

// groups answers so many groups with colons between.
func groups(n int) string { return long("aB9f", ":", n) }

// P15.1: addresses behind IPv6.
func TestAddresses(t *testing.T) {
	wantLiteral(t, true, "IPv6:"+groups(8), "IPv6:1:2:3:4:5:6:7:8", "ipv6:1:2:3:4:5:6:7:8", "IPV6:A:b:C:d:E:f:0:9", "iPV6:::", "IPv6:0:00:000:0000:f:ff:fff:FFFF",
		"IPv6:::", "IPv6:::1", "IPv6:::1:2", "IPv6:::"+groups(5), "IPv6:::"+groups(6), "IPv6:1::", "IPv6:1:2::", "IPv6:"+groups(5)+"::", "IPv6:"+groups(6)+"::", "IPv6:1::2", "IPv6:1::2:3:4:5:6", "IPv6:1:2::3:4:5:6", "IPv6:1:2:3::4:5:6", "IPv6:1:2:3:4::5:6", "IPv6:1:2:3:4:5::6", "IPv6:1:2::3")
	wantLiteral(t, false, "IPv6", "IPv6:", "IPv6::", "IPv6:1", "IPv6:1:", "IPv6::1", "IPv6:1:2", "IPv6:"+groups(6), "IPv6:"+groups(7), "IPv6:"+groups(9), "IPv6:"+groups(10), "IPv6:"+groups(16), "IPv6:"+groups(8)+":", "IPv6::"+groups(8), "IPv6::"+groups(7), "IPv6:"+groups(7)+":",
		"IPv6:"+groups(7)+"::", "IPv6:::"+groups(7), "IPv6:"+groups(8)+"::", "IPv6:::"+groups(8), "IPv6:1::2:3:4:5:6:7", "IPv6:1:2:3::4:5:6:7", "IPv6:1:2:3:4:5:6::7", "IPv6:1::2::3", "IPv6:::1::", "IPv6:::::", "IPv6::::", "IPv6::::1", "IPv6:1:::", "IPv6:1:::2", "IPv6:::1:", "IPv6::1::", "IPv6:1::2:", "IPv6::1::2", "IPv6:1::2::",
		"IPv6:12345::", "IPv6:::12345", "IPv6:00001::", "IPv6:1:2:3:4:5:6:7:12345", "IPv6:12345:2:3:4:5:6:7:8", "IPv6:g::", "IPv6:::g", "IPv6:::G", "IPv6:1:2:3:4:5:6:7:g", "IPv6:1:2:3:4:5:6:7:8g", "IPv6:::`", "IPv6:::@", "IPv6:::/", "IPv6:: :", "IPv6: ::", "IPv6:::1 ", " IPv6:::", "IPv6 :::", "IPv6:::1.2.3.4", "IPv6:1.2.3.4", "IPv6:::ffff:1.2.3.4", "IPv6:::-", "IPv6:1-2::", "IPv6:::\x00",
		"::", "::1", groups(8), "1:2:3:4:5:6:7:8", "IPv4:::", "IPv:::", "IP:::", "v6:::", "6:::", "IPv7:::", "xIPv6:::", "IPv6:IPv6:::", "IPv66:::", "\u0130Pv6:::", "IPv6:::]", "IPv6:"+long("1", ":", 100000), "IPv6:"+long(":", "", 100000), "IPv6:"+long("f", "", 100000)+"::")
	for _, word := range []string{"ipv6", "IPV6", "iPv6", "IpV6", "ipV6", "IPv6"} {
		wantPath(t, "<a@["+word+":A::B]>", literal("a", "ipv6:a::b"))
	}
	for ahead := range 10 {
		for behind := range 10 {
			wantLiteral(t, ahead+behind <= 6, "IPv6:"+groups(ahead)+"::"+groups(behind))
		}
		wantLiteral(t, ahead == 8, "IPv6:"+groups(ahead))
	}
}

// letDigs and atomBytes are the chapter's letters and digits, and an atom's other bytes.
const (
	letDigs   = "abcdefghijklmnopqrstuvwxyzABCDEFGHIJKLMNOPQRSTUVWXYZ0123456789"
	atomBytes = "!#$%&'*+-/=?^_`{|}~"
)

// P15.2, P15.3: local parts that are atoms.
func TestAtoms(t *testing.T) {
	for c := range 256 {
		b := string([]byte{byte(c)})
		if strings.Contains(letDigs+atomBytes, b) {
			for _, s := range []string{b, b + b, "a" + b, b + "a", b + "." + b, "a." + b + ".c"} {
				wantLocal(t, s, s)
			}
			continue
		}
		wantBoxError(t, b+"@b", api.ErrPath)
		wantBoxError(t, "a."+b+"@b", api.ErrPath)
		if b != "." && b != "@" {
			wantBoxError(t, "a"+b+"c@b", api.ErrPath)
			wantBoxError(t, "a"+b+"@b", api.ErrPath)
		}
	}
	for _, s := range []string{"a", "A", "a.b", "A.b", "a.b.c.d", "1", "1.2", "-", "-.-", "a-", "a--b", "postmaster", "PostMaster", "a+b=c/d", "=", "?", "{a}|b~", atomBytes, long("a", ".", 32), long("aB", ".", 21) + ".c"} {
		wantLocal(t, s, s)
	}
	for _, s := range []string{"", ".", "..", ".a", "a.", "a..b", ".a.b", "a.b.", "a...b", "a b", " a", "a ", "a\"b\"", "\"a\"b", "\"a\".b", "a.\"b\"", "\"a\"\"b\"", "a,b", "a:b", "a;b", "a<b", "(a)b", "a(b)", "[a]", "a\\b", "a\\@b", "\u00e4", "\u00df", "a\x00"} {
		wantBoxError(t, s+"@b", api.ErrPath)
	}
	for _, s := range []string{"a", "@", "a@", "@b", "a@b@c", "a@@b", "a@b ", " a@b", "a @b", "a@ b", "a@b\r\n", "<a@b>", "<a@b", "a@b,c@d", "a@b.", "a@.b", "a@[b]", "a@[1.2.3.4", "a@1.2.3.4]", "a@[1.2.3.4]b", "a@[1.2.3.4].b", "a@b.[1.2.3.4]", "a@[[1.2.3.4]]", "a@[]", "a@[", "a@]", "a.b"} {
		wantBoxError(t, s, api.ErrPath)
	}
	// What is a path in < and >, or has one within, is no mailbox for that.
	for _, s := range []string{"", "postmaster", "a@b>x", "@b:a@c", "@b,@c:a@d", ">"} {
		if m, err := Mailbox(s); m != (api.Mailbox{}) || err != api.ErrPath {
			t.Errorf("Mailbox of %q: %+v, %d", s, m, err)
		}
	}
}

// P15.2, P15.3: local parts in quotes.
func TestQuoted(t *testing.T) {
	for c := range 256 {
		b := string([]byte{byte(c)})
		if c < 32 || c > 126 {
			for _, s := range []string{`"` + b + `"`, `"\` + b + `"`, `"a` + b + `"`, `"\a` + b + `b"`, `"` + b} {
				wantBoxError(t, s+"@b", api.ErrPath)
			}
			continue
		}
		wantLocal(t, `"\`+b+`"`, b)
		wantLocal(t, `"\`+b+`\`+b+`"`, b+b)
		wantLocal(t, `"a\`+b+`c"`, "a"+b+"c")
		if b == `"` || b == `\` {
			wantBoxError(t, `"`+b+`"@b`, api.ErrPath)
			wantBoxError(t, `"a`+b+`"@b`, api.ErrPath)
			continue
		}
		wantLocal(t, `"`+b+`"`, b)
		wantLocal(t, `"a`+b+`c"`, "a"+b+"c")
	}
	for local, meant := range map[string]string{
		`""`: "", `" "`: " ", `"a"`: "a", `"a b"`: "a b", `"a.b"`: "a.b", `"."`: ".", `".."`: "..", `".a"`: ".a", `"a@b"`: "a@b", `"@"`: "@", `">"`: ">", `"<a@b>"`: "<a@b>", `"a>b@c"`: "a>b@c", `"a\"b c"`: `a"b c`, `"\"\""`: `""`, `"\\"`: `\`, `"\\\\"`: `\\`, `"\\\""`: `\"`, `"\"\\"`: `"\`, `"\a\b"`: "ab", `"@a,@b:c@d"`: "@a,@b:c@d", `"[1.2.3.4]"`: "[1.2.3.4]", `"postmaster"`: "postmaster", `"\PostMaster"`: "PostMaster", `"\<\>"`: "<>", `"(a)"`: "(a)", `" \ \  "`: "    ",
	} {
		wantLocal(t, local, meant)
	}
	for _, s := range []string{`"`, `"a`, `"\"`, `"a\"`, `"\\\"`, `"\`, `a"`, `"""`, `"a"b"`, `""""`, `""a`, `a""`, `"".""`, `"\\"""`, `""\`, `\""`, `\"a\"`, ` ""`, `"" `, `'a b'`, "\"\t\"", "\"a\r\n b\"", "\"\\\n\"", "\"\u00e4\"", "\"\\\u00e4\"", "\"a\x00\""} {
		wantBoxError(t, s+"@b", api.ErrPath)
	}
}

// P15.2, P15.3: 64 bytes of a local part, as they are meant, and those beyond.
func TestLocalLimits(t *testing.T) {
	for local, n := range map[string]int{
		long("a", "", 64): 64, long("a", "", 65): 65, long("a", ".", 32): 63, long("a", ".", 32) + "b": 64, long("a", ".", 33): 65,
		`"` + long("a", "", 64) + `"`: 64, `"` + long("a", "", 65) + `"`: 65, `"` + long(" ", "", 64) + `"`: 64, `"` + long(`\"`, "", 64) + `"`: 64, `"` + long(`\\`, "", 64) + `"`: 64, `"` + long(`\a`, "", 64) + `"`: 64, `"` + long(`\a`, "", 65) + `"`: 65, `"` + long(`\"`, "", 63) + `ab"`: 65,
		long("a", "", 100000): 100000, `"` + long(`\"`, "", 100000) + `"`: 100000,
	} {
		if n > 64 {
			wantBoxError(t, local+"@b", api.ErrLong)
			wantError(t, "<@a:"+local+"@b>x", api.ErrLong)
			continue
		}
		meant := local
		if local[0] == '"' {
			meant = plainMeant(local)
		}
		if len(meant) != n {
			t.Fatalf("%q has %d bytes", meant, len(meant))
		}
		wantLocal(t, local, meant)
	}
}

// hops answers a route of so many domains, and its text.
func hops(many int) ([]string, string) {
	var l []string
	for i := range many {
		l = append(l, "h-"+strconv.Itoa(i)+".Org")
	}
	text := "@" + strings.Join(l, ",@") + ":"
	for i := range l {
		l[i] = strings.ToLower(l[i])
	}
	return l, text
}

// P15.3: paths with routes, without them, and postmaster alone.
func TestPaths(t *testing.T) {
	wantPath(t, "<>", api.Path{Null: true})
	for _, s := range []string{"postmaster", "Postmaster", "POSTMASTER", "PostMaster", "pOSTmASTER", "postmasteR"} {
		wantPath(t, "<"+s+">", box("postmaster", ""))
		wantPath(t, "<"+s+"@A>", box(s, "a"))
		wantPath(t, "<@x:"+s+"@A>", box(s, "a", "x"))
		for _, wrong := range []string{"<@a:" + s + ">", "<" + s, s, s + ">", "< " + s + ">", "<" + s + " >", "<\"" + s + "\">", "<" + s + "@>", "<" + s + ".>", "<" + s + s + ">", "<" + s[:9] + ">", "<" + s[1:] + ">", "<" + s + "x>", "<" + s + "\x00>", "<<" + s + ">>", "<@" + s + ">", "<" + s + ":>", "<" + s + "<>"} {
			wantError(t, wrong, api.ErrPath)
		}
	}
	for at := range "postmaster" {
		for c := range 256 {
			if b := byte(c); b|32 != "postmaster"[at] && b != '@' && b != '>' {
				wantError(t, "<"+"postmaster"[:at]+string([]byte{b})+"postmaster"[at+1:]+">", api.ErrPath)
			}
		}
	}
	for _, many := range []int{1, 2, 3, 19, 20} {
		route, text := hops(many)
		wantPath(t, "<"+text+"a@B>", box("a", "b", route...))
		wantPath(t, "<"+text+"\"a>@b:\"@[IPv6:A::]>", literal("a>@b:", "ipv6:a::", route...))
	}
	for _, many := range []int{21, 22, 1000, 20000} {
		_, text := hops(many)
		wantError(t, "<"+text+"a@b>", api.ErrLong)
		wantError(t, "<"+text+"a@b", api.ErrPath)
		wantError(t, "<"+text+"a@b_>", api.ErrPath)
		wantError(t, "<"+text+">", api.ErrPath)
		wantError(t, "<"+text[:len(text)-1]+"a@b>", api.ErrPath)
	}
	wantPath(t, "<@a,@a,@A:a@a>", box("a", "a", "a", "a", "a"))
	wantPath(t, "<@1.2.3.4:a@b>", box("a", "b", "1.2.3.4"))
}

func TestNoPaths(t *testing.T) {
	for _, s := range []string{
		"", "<", ">", "><", "< >", " <>", "x<>", "()", "<<>>", "<@>", "<@:>", "<:>", "<.>", "<a>", "<a@>", "<@b>", "a@b", "a@b>", " <a@b>", "< a@b>", "<a@b >", "<a @b>", "<a@ b>", "<<a@b>>", "<a@b x>", "<a@b@c>", "<a@b,c@d>", "<>a@b>"[1:], "<a@b\x00>", "<\x00>", "<\r\n>",
		"<@a b@c>", "<@a,b@c>", "<@a,b:c@d>", "<@a,@b@c>", "<@a,@b c@d>", "<@a,:b@c>", "<@a,,@b:c@d>", "<,@a:b@c>", "<@a::b@c>", "<:a@b>", "<a:b@c>", "<@:a@b>", "<@a, @b:c@d>", "<@a ,@b:c@d>", "<@a: b@c>", "<@a :b@c>", "<@ a:b@c>", "<@a@b:c@d>", "<@a@b:c@d>", "<@a:@b:c@d>", "<@a:,@b:c@d>", "<@a@b>", "<@a:b>", "<@a:@b>", "<@a:>", "<@a>", "<@a,@b>", "<@a,>", "<a,@b:c@d>", "<@a;@b:c@d>", "<@a.:b@c>", "<@.a:b@c>", "<@a..b:c@d>", "<@a,@-b:c@d>", "<@a,@b-:c@d>", "<@a_:b@c>", "<@\"a\":b@c>", "<@a:<b@c>>", "<@a:b@c", "@a:b@c>", "@a:b@c", "<@a:b@c:d>", "<@@a:b@c>", "<@a:postmaster>", "<@a:>>", "<@a:\"\">",
	} {
		wantError(t, s, api.ErrPath)
	}
}

// P15.2, P15.3: what is no path is that ahead of being too long, wherever each stands.
func TestOrderOfErrors(t *testing.T) {
	local, label, domain := long("a", "", 65), long("b", "", 64), long("c", ".", 129)
	_, route := hops(21)
	for _, s := range []string{local + "@b", "\"" + local + "\"@b", "a@" + label, "a@" + domain, "a@x." + label + ".y", local + "@" + label, "\"" + local + "\"@[1.2.3.4]"} {
		wantBoxError(t, s, api.ErrLong)
		for _, wrong := range []string{s + "_", s + "..", s + ".", s + " ", s + "@", "." + s, " " + s, "(" + s, s + "\x00", "@" + s, "\"" + s} {
			wantBoxError(t, wrong, api.ErrPath)
		}
		wantError(t, "<"+s, api.ErrPath)
		wantError(t, "<"+s+"> and more", api.ErrLong)
		wantError(t, "<@a:"+s+">", api.ErrLong)
		wantError(t, "<@a_:"+s+">", api.ErrPath)
		wantError(t, "<@a "+s+">", api.ErrPath)
	}
	for _, s := range []string{route, "@" + label + ":", "@" + domain + ":", "@a,@" + label + ",@b:", "@a,@b,@" + domain + ":"} {
		wantError(t, "<"+s+"a@b>", api.ErrLong)
		for _, wrong := range []string{"a@b", "a@b_>", "a@b->", "a..b@c>", "@b>", "a@>", "a>", ">", "postmaster>", "a@[1.2.3]>", "a@[1.2.3.4>", "\"a@b>", " a@b>", "", ":a@b>"} {
			wantError(t, "<"+s+wrong, api.ErrPath)
		}
		wantError(t, "<"+s[:len(s)-1]+",a@b>", api.ErrPath)
	}
}

// paths answers what Parse may tell, each with its text.
func paths() map[string]api.Path {
	route, text := hops(20)
	return map[string]api.Path{
		"<>":                                 {Null: true},
		"<postmaster>":                       box("postmaster", ""),
		"<postmaster@a>":                     box("postmaster", "a"),
		"<Postmaster@a>":                     box("Postmaster", "a"),
		"<a@b>":                              box("a", "b"),
		"<A.b-c@x.y-z.0>":                    box("A.b-c", "x.y-z.0"),
		"<" + atomBytes + "@x>":              box(atomBytes, "x"),
		`<""@b>`:                             box("", "b"),
		`<" "@b>`:                            box(" ", "b"),
		`<"."@b>`:                            box(".", "b"),
		`<".a"@b>`:                           box(".a", "b"),
		`<"a."@b>`:                           box("a.", "b"),
		`<"a..b"@c>`:                         box("a..b", "c"),
		`<"a b\""@c>`:                        box(`a b"`, "c"),
		`<"\\"@c>`:                           box(`\`, "c"),
		`<"\\\\\"a\""@c>`:                    box(`\\"a"`, "c"),
		`<"a>b@c:,;<[](d)"@c>`:               box("a>b@c:,;<[](d)", "c"),
		"<a@[1.2.3.4]>":                      literal("a", "1.2.3.4"),
		"<a@[001.002.003.255]>":              literal("a", "001.002.003.255"),
		"<a@1.2.3.4>":                        box("a", "1.2.3.4"),
		`<"a b"@[ipv6:a::b]>`:                literal("a b", "ipv6:a::b"),
		"<@c:a@b>":                           box("a", "b", "c"),
		"<@x,@y.z:a.b@[1.2.3.4]>":            literal("a.b", "1.2.3.4", "x", "y.z"),
		`<@c,@c:"@"@b>`:                      box("@", "b", "c", "c"),
		"<" + strings.ToLower(text) + "a@b>": box("a", "b", route...),
		"<" + long("A", "", 64) + "@" + long("b", "", 63) + ">":        box(long("A", "", 64), long("b", "", 63)),
		"<\"" + long(`\"`, "", 64) + "\"@" + long("b", ".", 128) + ">": box(long(`"`, "", 64), long("b", ".", 128)),
	}
}

// wantPrinted holds that a path is right, its text, and that of its mailbox, and what they are read as, whatever stands behind the path's.
func wantPrinted(t testing.TB, p api.Path, want string) {
	t.Helper()
	s, err := Print(p)
	if !Right(p) || s != want || err != api.OK {
		t.Errorf("Print of %+v: %t, %s, %d; want %s", p, Right(p), short(s), err, short(want))
	}
	for _, behind := range []string{"", ">", "a", " <a@b>", "\x00", s} {
		wantRead(t, s+behind, p, len(s))
	}
	s, err = PrintBox(p.Box)
	if p.Null || p.Box.Domain == "" {
		if s != "" || err != api.ErrPath {
			t.Errorf("PrintBox of %+v: %s, %d", p.Box, short(s), err)
		}
		return
	}
	if at := strings.LastIndex(want, s); at < 0 || s+">" != want[at:] || err != api.OK {
		t.Errorf("PrintBox of %+v: %s, %d", p.Box, short(s), err)
	}
	if m, err := Mailbox(s); m != p.Box || err != api.OK {
		t.Errorf("Mailbox of %s: %+v, %d; want %+v", short(s), m, err, p.Box)
	}
}

// P15.4, P15.5: what may be told is printed.
func TestPrint(t *testing.T) {
	for want, p := range paths() {
		wantPrinted(t, p, want)
		wantPath(t, want, p)
	}
	wantPrinted(t, api.Path{Null: true, Route: []string{}}, "<>")
	wantPrinted(t, api.Path{Route: []string{}, Box: api.Mailbox{Local: "postmaster"}}, "<postmaster>")
	for c := 32; c <= 126; c++ {
		b := string([]byte{byte(c)})
		want := `"` + b + `"`
		switch {
		case strings.Contains(letDigs+atomBytes, b):
			want = b
		case b == `"` || b == `\`:
			want = `"\` + b + `"`
		}
		wantPrinted(t, box(b, "x"), "<"+want+"@x>")
	}
}

// P15.4: what may not be told is refused.
func TestNotRight(t *testing.T) {
	tooMany, _ := hops(21)
	many, _ := hops(20)
	for i, p := range []api.Path{
		{}, {Route: []string{"a"}}, {Null: true, Route: []string{"a"}}, {Null: true, Route: []string{""}}, {Null: true, Box: api.Mailbox{Local: "a"}}, {Null: true, Box: api.Mailbox{Domain: "b"}}, {Null: true, Box: api.Mailbox{Literal: true}}, {Null: true, Box: api.Mailbox{Local: "a", Domain: "b"}}, {Null: true, Box: api.Mailbox{Local: "postmaster"}},
		box("postmaster", "", "a"), box("postmaster", "", ""), box("Postmaster", ""), box("POSTMASTER", ""), box("postmaster ", ""), box("postmaste", ""), box("", ""), box("a", ""), literal("postmaster", ""), literal("a", ""), literal("", ""), box("", "", "a"),
		box("a", "B"), box("a", "b.C"), box("a", "."), box("a", "b."), box("a", ".b"), box("a", "b..c"), box("a", "-b"), box("a", "b-"), box("a", "b_c"), box("a", "b c"), box("a", "b@c"), box("a", "b>"), box("a", "b> <c@d"), box("a", "[1.2.3.4]"), box("a", "ipv6:::"), box("a", "\u00e4"), box("a", "b\x00"), box("a", long("b", "", 64)), box("a", long("b", ".", 129)),
		literal("a", "b"), literal("a", "1.2.3"), literal("a", "1.2.3.4.5"), literal("a", "1.2.3.256"), literal("a", "0001.2.3.4"), literal("a", "[1.2.3.4]"), literal("a", "IPv6:::"), literal("a", "ipv6:A::"), literal("a", "ipv6:::F"), literal("a", "ipv6:"), literal("a", "ipv6:"+strings.ToLower(groups(7))), literal("a", "::"), literal("a", "1.2.3.4 "), literal("a", "1.2.3.4]"),
		box("a\x00", "b"), box("\x1f", "b"), box("\x7f", "b"), box("\x80", "b"), box("\xff", "b"), box("a\tb", "c"), box("a\r\nb", "c"), box("\u00e9", "b"), box("a\u00e9", "b"), box(long("a", "", 65), "b"), box(long(" ", "", 65), "b"), box(long(`"`, "", 65), "b"), literal("\x1f", "1.2.3.4"), literal(long("a", "", 65), "1.2.3.4"), box(long("a", "", 100000), "b"),
		box("a", "b", ""), box("a", "b", "c", ""), box("a", "b", "", "c"), box("a", "b", "C"), box("a", "b", "c", "D"), box("a", "b", "-c"), box("a", "b", "c."), box("a", "b", "c,@d"), box("a", "b", "@c"), box("a", "b", "[1.2.3.4]"), box("a", "b", "1.2.3.4]"), box("a", "b", long("c", "", 64)), box("a", "b", long("c", ".", 129)), box("a", "b", "c:"), box("a", "b", "c\x00"), box("a", "b", tooMany...), literal("a", "1.2.3.4", tooMany...), box("postmaster", "", many...),
	} {
		if s, err := Print(p); Right(p) || s != "" || err != api.ErrPath {
			t.Errorf("%d: Print of %+v: %t, %s, %d", i, p, Right(p), short(s), err)
		}
		if p.Null || len(p.Route) > 0 {
			continue
		}
		if s, err := PrintBox(p.Box); s != "" || err != api.ErrPath {
			t.Errorf("%d: PrintBox of %+v: %s, %d", i, p.Box, short(s), err)
		}
	}
}

// What is handed in is never changed, and two answers share nothing.
func TestOwnMemory(t *testing.T) {
	p, n, err := Parse("<@A,@b:c@d>")
	q, _, _ := Parse("<@A,@b:c@d>")
	if n != 11 || err != api.OK {
		t.Fatal(n, err)
	}
	p.Route[0] = "x"
	if q.Route[0] != "a" {
		t.Error("two answers share their routes")
	}
	roomy := append(make([]string, 0, 9), "a", "b", "spare")[:2]
	in := box("c", "d", roomy...)
	for range 2 {
		if s, err := Print(in); s != "<@a,@b:c@d>" || err != api.OK || !Right(in) {
			t.Error(s, err)
		}
	}
	if !slices.Equal(roomy[:3], []string{"a", "b", "spare"}) {
		t.Error("a route that was handed in:", roomy[:3])
	}
}

// R1: great texts end soon.
func TestGreat(t *testing.T) {
	const many = 1 << 20
	for _, s := range []string{"<", "<@", "a", "\"", "\\", "<\"", "<@a,", "@a,", ".", "a.", "-", ":", "<a@[IPv6:", "1.", "[", ">", "<>", "\x00"} {
		all := long(s, "", many)
		Domain(all)
		Literal(all)
		Literal("IPv6:" + all)
		for _, ahead := range []string{"", "<", "<@", "<\"", "<a@", "<a@[", "<a@[IPv6:", "<@a:"} {
			Mailbox(ahead + all)
			Parse(ahead + all)
		}
		Print(box(all, all, all))
		PrintBox(api.Mailbox{Local: all, Domain: all, Literal: true})
	}
	_, route := hops(many / 8)
	wantError(t, "<"+route+"a@b>", api.ErrLong)
	wantError(t, "<\""+long(`\"`, "", many)+"\"@b>", api.ErrLong)
	wantError(t, "<a@"+long("b", ".", many)+">", api.ErrLong)
	wantRead(t, "<a@b>"+long(">", "", many), box("a", "b"), 5)
}
