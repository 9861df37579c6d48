package abnf

import (
	"testing"

	"franking/api"
)

// P2.1: the text of each kind of tree.
func TestTexts(t *testing.T) {
	b, c, d, e := named("b"), named("c"), named("d"), named("e")
	wantText(t, named("b-1"), "b-1")
	wantText(t, chars("X y;(<%"), `"X y;(<%"`)
	wantText(t, chars(""), `""`)
	wantText(t, values("\x00"), "%x00")
	wantText(t, values("\r\n\xaf"), "%x0D.0A.AF")
	wantText(t, values("\"\x7f"), "%x22.7F")
	wantText(t, span(0, 255), "%x00-FF")
	wantText(t, span(9, 9), "%x09-09")
	wantText(t, span(0x1b, 0xc2), "%x1B-C2")
	wantText(t, row(b, c, d), "b c d")
	wantText(t, or(b, c, d), "b / c / d")
	wantText(t, row(row(b, c), d), "(b c) d")
	wantText(t, row(b, or(c, d), e), "b (c / d) e")
	wantText(t, row(twice(b), times(0, 1, c)), "2b *1c")
	wantText(t, or(or(b, c), d), "(b / c) / d")
	wantText(t, or(b, row(c, d), twice(e)), "b / c d / 2e")
	wantText(t, row(row(row(b, c), d), or(or(b, row(c, or(d, e))), e)), "((b c) d) ((b / c (d / e)) / e)")
}

// P2.1: how often, and which kids stand in brackets then.
func TestTimesTexts(t *testing.T) {
	b, c := named("b"), named("c")
	wantText(t, times(0, 0, b), "0b")
	wantText(t, times(1, 1, b), "1b")
	wantText(t, times(9999, 9999, b), "9999b")
	wantText(t, times(0, -1, b), "*b")
	wantText(t, times(1, -1, b), "1*b")
	wantText(t, times(9999, -1, b), "9999*b")
	wantText(t, times(0, 1, b), "*1b")
	wantText(t, times(0, 9999, b), "*9999b")
	wantText(t, times(2, 10, b), "2*10b")
	wantText(t, twice(chars("x")), `2"x"`)
	wantText(t, twice(values("x")), "2%x78")
	wantText(t, twice(span(1, 2)), "2%x01-02")
	wantText(t, twice(twice(b)), "2(2b)")
	wantText(t, twice(row(b, c)), "2(b c)")
	wantText(t, twice(or(b, c)), "2(b / c)")
	wantText(t, times(0, -1, times(0, -1, times(0, -1, b))), "*(*(*b))")
}

// P2.1: a rule's name, whether it is more, and its place, which is no part of the text.
func TestRuleTexts(t *testing.T) {
	b := named("b")
	for _, r := range []struct {
		rule api.Rule
		want string
	}{
		{api.Rule{Name: "a", Tree: b}, "a = b"},
		{api.Rule{Name: "a", More: true, Tree: b}, "a =/ b"},
		{api.Rule{Name: "z-09-", At: -7, Tree: or(b, b)}, "z-09- = b / b"},
		{api.Rule{Name: "a", Tree: api.Tree{Kind: api.TreeName, Text: "b", Kids: []api.Tree{}}}, "a = b"},
	} {
		if got, err := Print(r.rule); got != r.want || err != api.OK {
			t.Errorf("Print(%+v): got %q, %d; want %q", r.rule, got, err, r.want)
		}
	}
	for _, s := range []string{"", "A", "aB", "1", "-", "1a", "-a", "a b", "a_", " a", "a\n", "é", "a\xff", "\x00"} {
		wantNoText(t, api.Rule{Name: s, Tree: b})
		wantNoText(t, api.Rule{Name: "a", Tree: named(s)})
		wantNoText(t, api.Rule{Name: "a", Tree: row(b, twice(named(s)))})
	}
	wantNoText(t, api.Rule{Name: "a"})
	wantNoText(t, api.Rule{})
	wantNoText(t, api.Rule{Name: "a", Tree: about(100, b, twice)})
}
