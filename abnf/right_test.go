package abnf

import (
	"regexp"
	"slices"
	"testing"

	"franking/api"
)

// The table of right trees once more, written as patterns and numbers, to hold Right against.
type plainKind struct {
	text            *regexp.Regexp
	ranged, timed   bool
	fewest, mostKid int
}

var plainKinds = map[uint8]plainKind{
	api.TreeName:  {text: regexp.MustCompile(`^[a-z][a-z0-9-]*$`)},
	api.TreeChars: {text: regexp.MustCompile(`^[ !#-~]*$`)},
	api.TreeBytes: {text: regexp.MustCompile(`(?s)^.+$`)},
	api.TreeRange: {text: regexp.MustCompile(`^$`), ranged: true},
	api.TreeRow:   {text: regexp.MustCompile(`^$`), fewest: 2, mostKid: 99},
	api.TreeOr:    {text: regexp.MustCompile(`^$`), fewest: 2, mostKid: 99},
	api.TreeTimes: {text: regexp.MustCompile(`^$`), timed: true, fewest: 1, mostKid: 1},
}

// plainRight tells what Right is to tell, of a tree whose kids are right, and not deep.
func plainRight(t api.Tree) bool {
	k, there := plainKinds[t.Kind]
	ranged := t.Lo == 0 && t.Hi == 0
	if k.ranged {
		ranged = t.Lo <= t.Hi
	}
	timed := t.Min == 0 && t.Max == 0
	if k.timed {
		timed = 0 <= t.Min && t.Min <= 9999 && (t.Max == -1 || t.Min <= t.Max && t.Max <= 9999)
	}
	return there && k.text.MatchString(t.Text) && ranged && timed && k.fewest <= len(t.Kids) && len(t.Kids) <= k.mostKid
}

// P2.1: each kind with each of its fields right and wrong, and with those that are another kind's.
func TestRightFields(t *testing.T) {
	texts := []string{"", "a", "z9-", "aB", "9", "-a", "\"", "\n", " ~", "\x7f", "\xff", "é"}
	counts := [][2]int{{0, 0}, {0, 1}, {1, 1}, {2, 1}, {0, -1}, {0, -2}, {-1, -1}, {-1, 0}, {9999, 9999}, {9999, -1}, {9999, 9998}, {10000, 10000}, {10000, -1}, {0, 10000}}
	bounds := [][2]uint8{{0, 0}, {0, 1}, {1, 0}, {1, 1}, {255, 255}, {255, 254}, {0, 255}}
	many := map[bool]int{}
	for kind := range 256 {
		for _, text := range texts {
			for _, c := range counts {
				for _, b := range bounds {
					for kids := range 4 {
						tree := api.Tree{Kind: uint8(kind), Text: text, Lo: b[0], Hi: b[1], Min: c[0], Max: c[1], Kids: slices.Repeat([]api.Tree{named("b")}, kids)}
						got := Right(tree)
						many[got]++
						if got != plainRight(tree) {
							t.Fatalf("Right(%+v): %v", tree, got)
						}
						if !got {
							checkWithin(t, tree)
						}
					}
				}
			}
		}
		if kind > int(api.TreeTimes)+1 {
			texts = texts[:2]
		}
	}
	if many[true] != 2+7+11+5+4+6 {
		t.Error("not each kind's right fields were looked at:", many)
	}
}

// checkWithin holds that what has a wrong tree in it is wrong, wherever that is.
func checkWithin(t *testing.T, wrong api.Tree) {
	t.Helper()
	b := named("b")
	for _, tree := range []api.Tree{row(wrong, b), row(b, wrong), or(b, b, wrong), twice(wrong), twice(or(row(b, wrong, b), b))} {
		if Right(tree) {
			t.Fatalf("Right(%+v): true", tree)
		}
	}
}

// P2.1: each byte in a name, first and behind a letter; in quotes; as a byte.
func TestRightBytes(t *testing.T) {
	for i := range 256 {
		b := string([]byte{byte(i)})
		for _, tree := range []api.Tree{named(b), named("a" + b), named(b + "a"), chars(b), chars("x" + b + "y"), values(b), values("x" + b)} {
			if got := Right(tree); got != plainRight(tree) {
				t.Errorf("Right(%+v): %v", tree, got)
			}
		}
	}
}

// P2.1: 100 deep, and deeper; trees that have themselves within them are deeper than all.
func TestRightDepth(t *testing.T) {
	b := named("b")
	for _, wrap := range []func(api.Tree) api.Tree{
		twice,
		func(in api.Tree) api.Tree { return row(in, b) },
		func(in api.Tree) api.Tree { return row(b, in) },
		func(in api.Tree) api.Tree { return or(b, in, b) },
	} {
		for many, want := range map[int]bool{0: true, 1: true, 98: true, 99: true, 100: false, 101: false, 1 << 16: false} {
			if got := Right(about(many, b, wrap)); got != want {
				t.Errorf("%d deep: %v", many+1, got)
			}
		}
	}
	deep := about(98, b, twice)
	if !Right(row(b, deep, twice(b))) || Right(row(b, twice(deep), twice(b))) {
		t.Error("a tree is not 1 more deep than its deepest kid")
	}
	round := []api.Tree{{Kind: api.TreeTimes}}
	round[0].Kids = round
	wide := []api.Tree{{Kind: api.TreeOr}, {Kind: api.TreeOr}, b}
	wide[0].Kids, wide[1].Kids = wide, wide
	for _, tree := range []api.Tree{round[0], wide[0], row(b, wide[1])} {
		if Right(tree) {
			t.Error("a tree that has itself within it is right")
		}
		if s, err := Print(api.Rule{Name: "a", Tree: tree}); err != api.ErrArg || s != "" {
			t.Error("a tree that has itself within it has a text")
		}
	}
}
