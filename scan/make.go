package scan

import (
	"slices"

	"franking/abnf"
	"franking/api"
	"franking/classes"
	"franking/dfa"
	"franking/least"
	"franking/lex"
	"franking/nfa"
	"franking/regex"
	"franking/rules"
)

const mostName = 64 // bytes of a name

// areNames tells whether some texts are names, neither none nor too many, and no two the same.
func areNames(l []string) bool {
	if len(l) < 1 || len(l) > api.MaxNames {
		return false
	}
	met := make(map[string]struct{}, len(l))
	for _, name := range l {
		// A name is what may be one in a tree.
		if len(name) > mostName || !abnf.Right(api.Tree{Kind: api.TreeName, Text: name}) {
			return false
		}
		met[name] = struct{}{}
	}
	return len(met) == len(l)
}

func areCaps(c api.Caps) bool {
	return isCap(c.Tree, api.MaxRe) && isCap(c.Nfa, api.MaxNfa) && isCap(c.Dfa, api.MaxDfa)
}

func isCap(n, most int) bool { return n >= 1 && n <= most }

// made makes the table of a text, of names and caps that may be; each step takes what the ones ahead of it have made.
func made(s string, names []string, caps api.Caps) (api.Table, api.Fault) {
	var (
		toks  []api.Tok
		list  []api.Rule
		gram  api.Gram
		trees []api.Re
		first api.Nfa
		t     api.Table
	)
	fault := firstFault(
		func() (f api.Fault) { toks, f.At, f.Err = lex.Lex(s); return f },
		func() (f api.Fault) { list, f.At, f.Err = abnf.Parse(toks); return f },
		func() (f api.Fault) { gram, f.Name, f.Err = rules.Gather(list); return f },
		func() (f api.Fault) { f.Name, f.Err = unknown(gram, names); return f },
		func() (f api.Fault) { trees, f.Name, f.Err = treesOf(gram, names, caps.Tree); return f },
		func() (f api.Fault) { first, f.Err = nfa.Build(trees, caps.Nfa); return f },
		func() (f api.Fault) { t.C, f.Err = classes.Of(trees); return f },
		func() (f api.Fault) { t.D, f.Err = dfa.Build(first, t.C, caps.Dfa); return f },
		func() (f api.Fault) { t.D, f.Err = least.Least(t.D); return f },
	)
	if fault.Err != api.OK {
		return api.Table{}, fault
	}
	t.Names = slices.Clone(names)
	return t, fault
}

// firstFault takes steps one by one, up to the first one that has a fault, and answers that.
func firstFault(steps ...func() api.Fault) api.Fault {
	for _, step := range steps {
		if f := step(); f.Err != api.OK {
			return f
		}
	}
	return api.Fault{}
}

// unknown answers the first name that no rule has, if there is one. All names are looked at ahead of the first tree: a name without a rule counts ahead of trees that are too great.
func unknown(g api.Gram, names []string) (string, api.Errno) {
	for _, name := range names {
		if _, ok := rules.Find(g, name); !ok {
			return name, api.ErrNone
		}
	}
	return "", api.OK
}

// treesOf answers the regular trees of the rules of some names, or the first name whose tree has more nodes than may be.
func treesOf(g api.Gram, names []string, most int) ([]api.Re, string, api.Errno) {
	var l []api.Re
	for _, name := range names {
		tree, err := regex.Inline(g, name, most)
		if err != api.OK {
			return nil, name, err
		}
		l = append(l, tree)
	}
	return l, "", api.OK
}
