package abnf

import (
	"slices"
	"strconv"
	"strings"

	"franking/api"
)

// digits are those of base 16, by what they mean.
const digits = "0123456789ABCDEF"

// printer puts a rule's text together. It is handed trees that are right alone, so that they are not deep.
type printer struct{ out strings.Builder }

func (p *printer) put(texts ...string) {
	for _, s := range texts {
		p.out.WriteString(s)
	}
}

// tree puts down a tree's text. In brackets stand those kids that would be read as parts of the tree about them.
func (p *printer) tree(t api.Tree) {
	switch t.Kind {
	case api.TreeName:
		p.put(t.Text)
	case api.TreeChars:
		p.put(`"`, t.Text, `"`)
	case api.TreeBytes:
		p.values(".", []byte(t.Text)...)
	case api.TreeRange:
		p.values("-", t.Lo, t.Hi)
	case api.TreeTimes:
		p.times(t.Min, t.Max)
		p.kids(t.Kids, "", api.TreeTimes, api.TreeRow, api.TreeOr)
	case api.TreeRow:
		p.kids(t.Kids, " ", api.TreeRow, api.TreeOr)
	case api.TreeOr:
		p.kids(t.Kids, " / ", api.TreeOr)
	}
}

// values puts down bytes by two digits each, and a sign between two of them.
func (p *printer) values(between string, values ...byte) {
	ahead := "%x"
	for _, b := range values {
		p.put(ahead, digits[b>>4:b>>4+1], digits[b&15:b&15+1])
		ahead = between
	}
}

// times puts down how often a tree stands, as short as may be.
func (p *printer) times(least, most int) {
	if most == least {
		p.put(strconv.Itoa(least))
		return
	}
	if least > 0 {
		p.put(strconv.Itoa(least))
	}
	p.put("*")
	if most >= 0 {
		p.put(strconv.Itoa(most))
	}
}

// kids puts down the kids' texts, a sign between two of them, and those of some kinds in brackets.
func (p *printer) kids(kids []api.Tree, between string, bracketed ...uint8) {
	for i, kid := range kids {
		if i > 0 {
			p.put(between)
		}
		if !slices.Contains(bracketed, kid.Kind) {
			p.tree(kid)
			continue
		}
		p.put("(")
		p.tree(kid)
		p.put(")")
	}
}
