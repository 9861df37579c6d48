package abnf

import (
	"slices"
	"strings"

	"franking/api"
)

// leaves tells of a token's kind which kind of tree it means by itself; 0: none.
var leaves = [...]uint8{
	api.TokName:  api.TreeName,
	api.TokChars: api.TreeChars,
	api.TokBytes: api.TreeBytes,
	api.TokRange: api.TreeRange,
}

// reader goes through tokens. at is the place among them of the first one that is not read; where a token does not fit, that is the one. open are the choices that are under way, the innermost ones last.
type reader struct {
	toks []api.Tok
	at   int
	open []group
}

// group is choices that are under way. Groups stand in a list, not in calls within calls: brackets may be nested deeper than calls can be, and yet mean a tree that is not deep.
type group struct {
	shut  uint8      // the kind of the token that ends them
	times api.Tree   // how often they are to stand; of no kind, if that is not told
	rows  []api.Tree // rows that are whole
	parts []api.Tree // of the row that is not
}

// stands tells whether a token of one of these kinds is next.
func (r *reader) stands(kinds ...uint8) bool {
	return r.at < len(r.toks) && slices.Contains(kinds, r.toks[r.at].Kind)
}

// place answers where the next token stands in the text; without one it is where the last one stands.
func (r *reader) place() int {
	return r.toks[min(r.at, len(r.toks)-1)].At
}

// rule reads a rule. There is a token left when it is called.
func (r *reader) rule() (api.Rule, bool) {
	at := r.place()
	name, ok := r.leaf(api.TokName)
	if !ok || !r.stands(api.TokIs, api.TokMore) {
		return api.Rule{}, false
	}
	more := r.stands(api.TokMore)
	r.at++
	tree, ok := r.choices()
	if !ok {
		return api.Rule{}, false
	}
	return api.Rule{Name: name.Text, At: at, More: more, Tree: tree}, true
}

// choices reads those of a rule, and the rule's end.
func (r *reader) choices() (api.Tree, bool) {
	r.open = []group{{shut: api.TokEnd}}
	for r.part() {
		for r.stands(r.inner().shut) {
			r.at++
			tree := r.leave()
			if len(r.open) == 0 {
				return tree, true
			}
			r.add(tree)
		}
		if r.stands(api.TokOr) {
			r.at++
			r.inner().endRow()
		}
	}
	return api.Tree{}, false
}

// part reads a part, or its beginning: brackets ahead of its first leaf open groups, of which the innermost one gets the leaf, and choices reads on.
func (r *reader) part() bool {
	times := r.times()
	for r.stands(api.TokOpen, api.TokMay) {
		r.enter(times)
		times = r.times()
	}
	leaf, ok := r.leaf(api.TokName, api.TokChars, api.TokBytes, api.TokRange)
	if ok {
		r.add(repeat(times, leaf))
	}
	return ok
}

// times reads how often a thing is to stand, if that is told: it answers a TreeTimes that has no kid yet. A TokTimes that may not be is not read: it begins no thing, so that it is found not to fit.
func (r *reader) times() api.Tree {
	if !r.stands(api.TokTimes) {
		return api.Tree{}
	}
	tok := r.toks[r.at]
	if !isTimes(tok.Min, tok.Max) {
		return api.Tree{}
	}
	r.at++
	return api.Tree{Kind: api.TreeTimes, Min: tok.Min, Max: tok.Max}
}

// leaf reads a token of one of these kinds as a tree by itself.
func (r *reader) leaf(kinds ...uint8) (api.Tree, bool) {
	if !r.stands(kinds...) {
		return api.Tree{}, false
	}
	tree := meaning(r.toks[r.at])
	if !Right(tree) {
		return api.Tree{}, false
	}
	r.at++
	return tree, true
}

// meaning answers the tree that a leaf's token means. Fields that say nothing of its kind are left out.
func meaning(tok api.Tok) api.Tree {
	tree := api.Tree{Kind: leaves[tok.Kind]}
	switch tree.Kind {
	case api.TreeName:
		tree.Text = small(tok.Text)
	case api.TreeRange:
		tree.Lo, tree.Hi = tok.Lo, tok.Hi
	default:
		tree.Text = strings.Clone(tok.Text)
	}
	return tree
}

// enter reads a bracket that opens a group.
func (r *reader) enter(times api.Tree) {
	shut := api.TokShut
	if r.stands(api.TokMay) {
		shut = api.TokDone
	}
	r.at++
	r.open = append(r.open, group{shut: shut, times: times})
}

// leave takes the innermost group away, and answers what it means.
func (r *reader) leave() api.Tree {
	last := len(r.open) - 1
	tree := r.open[last].whole()
	r.open = r.open[:last]
	return tree
}

// inner answers the innermost group; there is always one while choices are read.
func (r *reader) inner() *group { return &r.open[len(r.open)-1] }

// add puts a part into the innermost group's row.
func (r *reader) add(part api.Tree) {
	g := r.inner()
	g.parts = append(g.parts, part)
}

// endRow makes a row of the parts. The next row has a list of its own: this one is handed out.
func (g *group) endRow() {
	g.rows = append(g.rows, together(api.TreeRow, g.parts))
	g.parts = nil
}

// whole answers the tree that a group means.
func (g *group) whole() api.Tree {
	g.endRow()
	tree := together(api.TreeOr, g.rows)
	if g.shut == api.TokDone {
		tree = repeat(api.Tree{Kind: api.TreeTimes, Min: 0, Max: 1}, tree)
	}
	return repeat(g.times, tree)
}

// together answers a tree of these kids; one alone stays what it is.
func together(kind uint8, kids []api.Tree) api.Tree {
	if len(kids) == 1 {
		return kids[0]
	}
	return api.Tree{Kind: kind, Kids: kids}
}

// repeat gives a TreeTimes its kid; where how often is not told, the kid stays what it is.
func repeat(times, kid api.Tree) api.Tree {
	if times.Kind != api.TreeTimes {
		return kid
	}
	times.Kids = []api.Tree{kid}
	return times
}
