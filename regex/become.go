package regex

import "franking/api"

// makers tell by its kind what a tree becomes. Each one is handed the tree, and what its kids become, of which each stands once.
type makers [api.TreeTimes + 1]func(t api.Tree, kids []run) plan

// makersWithin answers those of a grammar whose rules become, by their names, what ready tells.
func makersWithin(ready map[string]plan) makers {
	return makers{
		api.TreeName:  func(t api.Tree, _ []run) plan { return ready[t.Text] },
		api.TreeChars: func(t api.Tree, _ []run) plan { return ofText(t.Text, eitherCase) },
		api.TreeBytes: func(t api.Tree, _ []run) plan { return ofText(t.Text, alone) },
		api.TreeRange: func(t api.Tree, _ []run) plan { return ofSet(span(t.Lo, t.Hi)) },
		api.TreeRow:   func(_ api.Tree, kids []run) plan { return row(kids) },
		api.TreeOr:    func(_ api.Tree, kids []run) plan { return ofKids(api.ReAlt, kids) },
		api.TreeTimes: func(t api.Tree, kids []run) plan { return ofTimes(t.Min, t.Max, kids[0].of) },
	}
}

// planOf answers what a right tree becomes.
func (m makers) planOf(t api.Tree) plan {
	var kids []run
	for _, kid := range t.Kids {
		kids = append(kids, run{m.planOf(kid), 1})
	}
	return m[t.Kind](t, kids)
}

// planOfRule answers what the rule at a place of a right grammar becomes. Each rule stands behind those that it leads to, so that they are ready when it is come to.
func planOfRule(g api.Gram, place int) plan {
	ready := make(map[string]plan)
	m := makersWithin(ready)
	for _, r := range g.Rules[:place] {
		ready[r.Name] = m.planOf(r.Tree)
	}
	return m.planOf(g.Rules[place].Tree)
}
