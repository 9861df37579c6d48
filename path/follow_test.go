package path

import (
	"math/rand"
	"slices"
	"strconv"
	"strings"
	"testing"

	"franking/api"
	"franking/grammar"
	"franking/scan"
)

// What follows is a second, plain reading of the chapter, by cutting texts at what stands between their parts.

// plainAll tells whether each of the pieces of a text, with something between two, is as is asked.
func plainAll(s, between string, is func(string) bool) bool {
	return !slices.ContainsFunc(strings.Split(s, between), func(piece string) bool { return !is(piece) })
}

// only tells whether a text is one byte at least, all of some.
func only(s, some string) bool { return s != "" && strings.Trim(s, some) == "" }

func plainLabel(s string) bool { return only(s, letDigs+"-") && strings.Trim(s, "-") == s }

func plainDomain(s string) bool { return plainAll(s, ".", plainLabel) }

// withinLimits tells of a domain whether it is within the limits.
func withinLimits(domain string) bool {
	return len(domain) <= 255 && plainAll(domain, ".", func(label string) bool { return len(label) <= 63 })
}

func plainNumber(s string) bool {
	n, _ := strconv.Atoi(s)
	return only(s, "0123456789") && len(s) <= 3 && n <= 255
}

func plainGroup(s string) bool { return only(s, "0123456789abcdefABCDEF") && len(s) <= 4 }

// plainGroups answers how many groups, or none, a text is, 100 if it is not.
func plainGroups(s string) int {
	switch {
	case s == "":
		return 0
	case plainAll(s, ":", plainGroup):
		return strings.Count(s, ":") + 1
	}
	return 100
}

func plainWords(s string) bool {
	if len(s) < 5 || strings.ToLower(s[:5]) != "ipv6:" {
		return strings.Count(s, ".") == 3 && plainAll(s, ".", plainNumber)
	}
	ahead, behind, cut := strings.Cut(s[5:], "::")
	if cut {
		return plainGroups(ahead)+plainGroups(behind) <= 6
	}
	return plainGroups(ahead) == 8
}

// plainQuoted tells whether a text is a local part in quotes.
func plainQuoted(s string) bool {
	if len(s) < 2 || s[0] != '"' || s[len(s)-1] != '"' || strings.ContainsFunc(s, func(c rune) bool { return c < 32 || c > 126 }) {
		return false
	}
	// Pairs of a backslash and what is behind it go first, from the left.
	rest := strings.NewReplacer(`\\`, "", `\"`, "").Replace(s[1 : len(s)-1])
	return !strings.Contains(rest, `"`) && !strings.HasSuffix(rest, `\`)
}

// plainMeant answers what a local part in quotes means.
func plainMeant(s string) string {
	return strings.NewReplacer(`\\`, `\`, `\`, "").Replace(s[1 : len(s)-1])
}

// plainBox answers the mailbox that a text is, whether it is one, and whether it is within the limits.
func plainBox(s string) (m api.Mailbox, is, within bool) {
	for at := range len(s) {
		if s[at] != '@' {
			continue
		}
		local, domain := s[:at], s[at+1:]
		switch {
		case plainAll(local, ".", func(atom string) bool { return only(atom, letDigs+atomBytes) }):
			m.Local = local
		case plainQuoted(local):
			m.Local = plainMeant(local)
		default:
			continue
		}
		m.Domain = strings.ToLower(domain)
		within = len(m.Local) <= 64
		if plainDomain(domain) {
			return m, true, within && withinLimits(domain)
		}
		if words, cut := strings.CutPrefix(m.Domain, "["); cut && strings.HasSuffix(words, "]") && plainWords(words[:len(words)-1]) {
			m.Domain, m.Literal = words[:len(words)-1], true
			return m, true, within
		}
	}
	return api.Mailbox{}, false, false
}

// plainRoute answers the domains of a route without its colon, whether it is one, and whether it is within the limits.
func plainRoute(s string) (route []string, is, within bool) {
	within = true
	for hop := range strings.SplitSeq(s, ",") {
		domain, cut := strings.CutPrefix(hop, "@")
		if !cut || !plainDomain(domain) {
			return nil, false, false
		}
		route = append(route, strings.ToLower(domain))
		within = within && withinLimits(domain)
	}
	return route, true, within && len(route) <= 20
}

// plainWhole answers the path that all of a text is, whether it is one, and whether it is within the limits.
func plainWhole(s string) (p api.Path, is, within bool) {
	in, cut := strings.CutPrefix(s, "<")
	if !cut || !strings.HasSuffix(in, ">") {
		return p, false, false
	}
	in = in[:len(in)-1]
	switch {
	case in == "":
		return api.Path{Null: true}, true, true
	case len(in) == 10 && strings.ToLower(in) == "postmaster":
		return box("postmaster", ""), true, true
	}
	if m, is, within := plainBox(in); is {
		return api.Path{Box: m}, true, within
	}
	ahead, behind, _ := strings.Cut(in, ":")
	route, isRoute, fits := plainRoute(ahead)
	m, isBox, within := plainBox(behind)
	if !isRoute || !isBox {
		return p, false, false
	}
	return api.Path{Route: route, Box: m}, true, fits && within
}

// wantPlain holds what is told of a text against the plain reading, and answers whether it is that a path begins it.
func wantPlain(t testing.TB, s string) bool {
	t.Helper()
	if got, want := Domain(s), plainDomain(s) && withinLimits(s); got != want {
		t.Errorf("Domain of %s: %t", short(s), got)
	}
	if got, want := Literal(s), plainWords(s); got != want {
		t.Errorf("Literal of %s: %t", short(s), got)
	}
	wantPlainBox(t, s)
	for end := range len(s) + 1 {
		p, is, within := plainWhole(s[:end])
		switch {
		case is && within:
			wantRead(t, s, p, end)
			wantAgain(t, p)
			return true
		case is:
			wantError(t, s, api.ErrLong)
			return true
		}
	}
	wantError(t, s, api.ErrPath)
	return false
}

// wantPlainBox holds which mailbox a text is against the plain reading.
func wantPlainBox(t testing.TB, s string) {
	t.Helper()
	want, is, within := plainBox(s)
	err := api.OK
	switch {
	case !is:
		want, err = api.Mailbox{}, api.ErrPath
	case !within:
		want, err = api.Mailbox{}, api.ErrLong
	}
	if m, e := Mailbox(s); m != want || e != err {
		t.Errorf("Mailbox of %s: %+v, %d; want %+v, %d", short(s), m, e, want, err)
	}
}

// wantAgain holds that what is read, printed, is read as the same (P15.5).
func wantAgain(t testing.TB, p api.Path) {
	t.Helper()
	s, err := Print(p)
	if err != api.OK {
		t.Fatalf("Print of %+v: %d", p, err)
	}
	wantPrinted(t, p, s)
	if q, is, within := plainWhole(s); !is || !within || !same(p, q) {
		t.Errorf("Print of %+v: %s, which is %+v, %t, %t", p, short(s), q, is, within)
	}
}

// P15.1 to P15.5: all short texts of the bytes that matter most.
func TestAllShort(t *testing.T) {
	for _, c := range []struct {
		some         string
		long         int
		ahead, after string
		least        int
	}{
		{"a@<>:", 7, "", "", 5},
		{"a@,:.", 7, "<", ">", 5},
		{"a@,:\"", 7, "<@a", ">", 5},
		{"\"\\a @", 7, "<", "@a>", 400},
		{"\"\\>", 9, "<\"", "\"@a>", 400},
		{"a-.", 9, "<a@", ">", 400},
		{"0125.", 6, "<a@[1.2.", "]>", 10},
		{"0269", 4, "<a@[1.", ".3.4]>", 20},
		{"a:", 12, "<a@[IPv6:", "]>", 100},
		{"a:f", 7, "<a@[ipv6:1:2:", "]>", 100},
		{"aA9 [].\x7f", 4, "<a@", ">", 20},
		{"eErRx>@", 5, "<postmast", ">", 2},
	} {
		told := 0
		var from func(s string)
		from = func(s string) {
			if wantPlain(t, c.ahead+s+c.after) {
				told++
			}
			if t.Failed() {
				return
			}
			for i := 0; i < len(c.some) && len(s) < c.long; i++ {
				from(s + c.some[i:i+1])
			}
		}
		from("")
		if told < c.least {
			t.Errorf("of %q: only %d are told", c.some, told)
		}
	}
}

// some are pieces out of which texts are laid, right ones and wrong ones.
func some() []string {
	return append(strings.Split("< > @ , : . - [ ] \" \\ a Z9 a-b x.y ! {} [1.2.3.4] [IPv6: :: ::] 0 25 255 256 1.2.3.4 f: :Ab 1:2:3:4 12345 \"\" \"a~b\" \\\" \\\\ postmaster PostMaster <postmaster> <> <a@ <@a: @b> @[1.2.3.4]> @a: ,@b a@b <\" \"@A> ,@C.d", " "), " ", "\x7f", "\x00", "\u00e4",
		long("a", "", 63), long("B", "", 64), long("c", ".", 127), long("d", ".", 128), "<@"+long("e", ",@", 19), long(`\f`, "", 32), "<"+long("G", "", 64)+"@")
}

// laid answers a text of pieces by chance.
func laid(r *rand.Rand, of []string) string {
	var b strings.Builder
	for range 1 + r.Intn(8) {
		b.WriteString(of[r.Intn(len(of))])
	}
	return b.String()
}

// one answers one of some texts by chance.
func one(r *rand.Rand, of ...string) string { return of[r.Intn(len(of))] }

// chanceDomain answers a domain by chance, which may be too long.
func chanceDomain(r *rand.Rand) string {
	var l []string
	for range 1 + r.Intn(1+r.Intn(5)) {
		l = append(l, one(r, "a", "Bc", "d-E", "0", "9z", "x--1", one(r, long("k", "", 63), long("L", "", 64), long("m", ".", 60), "n")))
	}
	return strings.Join(l, ".")
}

// chanceLocal answers a local part by chance, which may be too long.
func chanceLocal(r *rand.Rand) string {
	var b strings.Builder
	if r.Intn(2) == 0 {
		b.WriteString(one(r, "a", "B", "~", "9"))
		for range r.Intn(6) {
			b.WriteString(one(r, ".", "") + one(r, "a", "B-", "+=", "0", "{", long("c", "", 29)))
		}
		return b.String()
	}
	for range r.Intn(8) {
		b.WriteString(one(r, " ", "@", ">", `\"`, `\\`, `\a`, ".", ":", "<", ",", "z", long("d", "", 20)))
	}
	return `"` + b.String() + `"`
}

// chancePath answers a path by chance, which may be beyond the limits.
func chancePath(r *rand.Rand) string {
	switch r.Intn(20) {
	case 0:
		return "<>"
	case 1:
		return "<" + one(r, "postmaster", "Postmaster", "POSTmaster") + ">"
	}
	var l []string
	for range r.Intn(1 + r.Intn(1+r.Intn(26))) {
		l = append(l, chanceDomain(r))
	}
	route := ""
	if len(l) > 0 {
		route = "@" + strings.Join(l, ",@") + ":"
	}
	domain := chanceDomain(r)
	if r.Intn(4) == 0 {
		domain = one(r, "[1.2.3.4]", "[IPv6:A::]", "[ipv6:"+groups(8)+"]", "[000.255.1.99]")
	}
	return "<" + route + chanceLocal(r) + "@" + domain + ">"
}

// spoilt answers a text with a byte more, less, or another one, perhaps.
func spoilt(r *rand.Rand, s string) string {
	at, c := r.Intn(len(s)+1), string([]byte{byte(r.Intn(256))})
	if r.Intn(2) == 0 && s != "" {
		c = s[at/2 : at/2+1]
	}
	switch r.Intn(6) {
	case 0:
		return s[:at] + c + s[at:]
	case 1:
		return s[:at] + s[min(at+1, len(s)):]
	case 2:
		return s[:at] + c + s[min(at+1, len(s)):]
	}
	return s
}

// P15.1 to P15.5: texts by chance, of which enough are paths, too long, and none.
func TestByChance(t *testing.T) {
	r := rand.New(rand.NewSource(15))
	many := map[api.Errno]int{}
	pieces := some()
	for i := range 20000 {
		s := spoilt(r, chancePath(r))
		if i%3 == 0 {
			s = laid(r, pieces)
		}
		if r.Intn(4) == 0 {
			s += laid(r, pieces)
		}
		wantPlain(t, s)
		wantPlainBox(t, strings.Trim(s, "<>"))
		_, _, err := Parse(s)
		many[err]++
	}
	if many[api.OK] < 2000 || many[api.ErrLong] < 1000 || many[api.ErrPath] < 2000 {
		t.Error("hardly anything was looked at:", many)
	}
}

// P15.4, P15.5: what may be told, by chance, is printed and read as the same; letters great or small say nothing.
func TestBackByChance(t *testing.T) {
	r := rand.New(rand.NewSource(4))
	right := 0
	for range 20000 {
		var p api.Path
		for range r.Intn(1 + r.Intn(22)) {
			p.Route = append(p.Route, one(r, chanceDomain(r), strings.ToLower(chanceDomain(r))))
		}
		p.Box = api.Mailbox{Local: plainMeant(`"` + one(r, "", "a", " ", "\x1f", "\x7f", "a.b", laid(r, []string{"a", ".", `\"`, `\\`, "@", ">", "Z"})) + `"`), Domain: strings.ToLower(chanceDomain(r))}
		if r.Intn(3) == 0 {
			p.Box.Domain, p.Box.Literal = one(r, "1.2.3.4", "1.2.3", "ipv6:::", "ipv6:a", "IPv6:::", "ipv6:1:2::F", "ipv6:1:2::f"), true
		}
		s, err := Print(p)
		if Right(p) != (err == api.OK) {
			t.Errorf("Right of %+v: %t, %d", p, Right(p), err)
		}
		if err != api.OK {
			continue
		}
		right++
		wantPrinted(t, p, s)
		local := strings.LastIndex(s, "@")
		route := 1 + strings.Index(s[1:], localText(p.Box.Local)+"@")
		if len(p.Route) > 0 && p.Box.Local == "" {
			route = strings.LastIndex(s, `""`)
		}
		if len(p.Route) == 0 {
			route = 1
		}
		if route > 1 && s[route-1] != ':' {
			continue // the local part stands in the route, too
		}
		wantRead(t, strings.ToUpper(s[:route])+s[route:local]+strings.ToUpper(s[local:]), p, len(s))
	}
	if right < 4000 {
		t.Error("hardly anything was right:", right)
	}
}

// tableOf answers the table of a book of the grammar.
func tableOf(t testing.TB, book uint8) api.Table {
	t.Helper()
	x, f := grammar.Make(book)
	if f != (api.Fault{}) {
		t.Fatal(book, f)
	}
	return x
}

// stepped answers the state to which a table comes by some bytes, -1 if that is nowhere.
func stepped(x api.Table, state int, s string) int {
	for i := 0; i < len(s) && state >= 0; i++ {
		state = x.D.Next[state*x.D.Many+int(x.C.Of[s[i]])]
	}
	return state
}

// tag answers by which name a table tells all of a text, -1 if by none.
func tag(x api.Table, state int, s string) int {
	if state = stepped(x, state, s); state < 0 {
		return -1
	}
	return x.D.Tags[state]
}

// pathTag answers by which name of the book of paths a text should be told: by the third one if all of it is a path of a mailbox, whatever its length; 100 if it is not a text that Parse takes for a whole path.
func pathTag(s string) int {
	p, n, err := Parse(s)
	switch {
	case err == api.ErrPath || err == api.OK && n < len(s):
		return -1
	case err == api.ErrLong:
		// No path is the beginning of another one: so it is all of s if no path begins what is one byte shorter.
		if _, _, err := Parse(s[:len(s)-1]); err != api.ErrPath {
			return -1
		}
	case p.Null:
		return 0
	case p.Box.Domain == "":
		return 1
	}
	return 2
}

// argTag answers by which name of a domain and a literal in [ and ] a text should be told, whatever its length.
func argTag(s string) int {
	// A mailbox of a longer domain is none for its length alone.
	if _, err := Mailbox("a@" + s); err == api.ErrPath {
		return -1
	}
	if strings.HasPrefix(s, "[") {
		return 1
	}
	return 0
}

// wantTables holds what the tables of paths, and of domains, tell of a text against this layer.
func wantTables(t testing.TB, paths, args api.Table, s string) {
	t.Helper()
	if got, want := tag(paths, 0, s), pathTag(s); got != want {
		t.Errorf("of %s the table of paths tells %d; want %d", short(s), got, want)
	}
	got, want := tag(args, 0, s), argTag(s)
	if got == 2 {
		got = -1 // any text that may be shown
	}
	if got != want {
		t.Errorf("of %s the table of arguments tells %d; want %d", short(s), got, want)
	}
}

// ways answers, for each state of a table, one of the shortest texts that lead to it.
func ways(x api.Table) []string {
	l := make([]string, len(x.D.Tags))
	met := map[int]bool{0: true}
	for queue := []int{0}; len(queue) > 0; queue = queue[1:] {
		for c := range 256 {
			b := string([]byte{byte(c)})
			if to := stepped(x, queue[0], b); to >= 0 && !met[to] {
				met[to] = true
				l[to] = l[queue[0]] + b
				queue = append(queue, to)
			}
		}
	}
	return l
}

// apart answers some texts by which each two states of a table, and nowhere, are told from one another.
func apart(x api.Table) []string {
	told := map[int]string{} // of each state, the tags behind these texts
	for state := -1; state < len(x.D.Tags); state++ {
		told[state] = strconv.Itoa(tag(x, state, ""))
	}
	l := []string{""}
	for at := 0; at < len(l); at++ {
		met := map[uint8]bool{}
		for c := range 256 {
			s := string([]byte{byte(c)}) + l[at]
			if met[x.C.Of[c]] {
				continue
			}
			met[x.C.Of[c]] = true
			more := map[int]string{}
			for state, tags := range told {
				more[state] = tags + " " + strconv.Itoa(tag(x, state, s))
			}
			if kinds(more) > kinds(told) {
				told, l = more, append(l, s)
			}
		}
	}
	return l
}

// kinds answers how many there are that are told apart.
func kinds(told map[int]string) int {
	met := map[string]bool{}
	for _, tags := range told {
		met[tags] = true
	}
	return len(met)
}

// P14.3: from each state of the tables of paths and of domains on, by each byte, this layer goes where the table goes, as far as texts tell by which the table's states are told apart.
func TestEachState(t *testing.T) {
	paths, args := tableOf(t, api.BookPath), tableOf(t, api.BookArg)
	for _, x := range []api.Table{paths, args} {
		tails := apart(x)
		for _, ahead := range ways(x) {
			for c := range 256 {
				for _, tail := range tails {
					wantTables(t, paths, args, ahead+string([]byte{byte(c)})+tail)
				}
			}
			if t.Failed() {
				return
			}
		}
	}
}

// P14.3: texts by chance; and layer 11 tells of them what its table does.
func TestTablesByChance(t *testing.T) {
	paths, args := tableOf(t, api.BookPath), tableOf(t, api.BookArg)
	r := rand.New(rand.NewSource(143))
	pieces, many := some(), map[int]int{}
	for i := range 20000 {
		s := spoilt(r, chancePath(r))
		if i%3 == 0 {
			s = laid(r, pieces)
		}
		wantTables(t, paths, args, s)
		many[pathTag(s)]++
		_, domain, _ := strings.Cut(strings.TrimSuffix(s, ">"), "@")
		wantTables(t, paths, args, domain)
		many[10+argTag(domain)]++
		if i%200 == 0 {
			if got, ok := scan.Whole(paths, s); ok != (pathTag(s) >= 0) || ok && got != pathTag(s) {
				t.Errorf("Whole of %s: %d, %t", short(s), got, ok)
			}
		}
	}
	if many[-1] < 2000 || many[0] < 100 || many[1] < 100 || many[2] < 2000 || many[9] < 2000 || many[10] < 1000 || many[11] < 200 {
		t.Error("hardly anything was looked at:", many)
	}
}

func FuzzPath(f *testing.F) {
	for s := range paths() {
		f.Add(s)
	}
	for _, s := range some() {
		f.Add(s)
	}
	x, args := tableOf(f, api.BookPath), tableOf(f, api.BookArg)
	f.Fuzz(func(t *testing.T, s string) {
		if len(s) > 2000 {
			return
		}
		wantPlain(t, s)
		wantTables(t, x, args, s)
	})
}
