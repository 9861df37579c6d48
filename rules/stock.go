package rules

import (
	"strings"

	"franking/abnf"
	"franking/api"
)

// stock is rules that are gathered, as they stand; places tells by a name where its rule stands.
type stock struct {
	places map[string]int
	rules  []api.Rule
	trees  [][]api.Tree // of each rule its tree, and all that was more of it
}

// take gathers a rule.
func (s *stock) take(r api.Rule) api.Errno {
	place, there := s.places[r.Name]
	switch {
	case there && !r.More:
		return api.ErrTwice
	case r.More && !there:
		return api.ErrMore
	case !there:
		place = len(s.rules)
		s.places[r.Name] = place
		s.rules = append(s.rules, r)
		s.trees = append(s.trees, nil)
	}
	s.trees[place] = append(s.trees[place], r.Tree)
	return api.OK
}

// join makes one tree of each rule of which there was more. Without an ok it answers the name of the first one whose tree is too deep by that.
func (s *stock) join() (string, bool) {
	for i, trees := range s.trees {
		if len(trees) == 1 {
			continue
		}
		joined := api.Tree{Kind: api.TreeOr, Kids: trees}
		if !abnf.Right(joined) {
			return s.rules[i].Name, false
		}
		s.rules[i].Tree = joined
	}
	return "", true
}

// leads tells of each rule the places of those whose names it has in it. Without an ok it answers the first name that no rule has.
func (s *stock) leads() ([][]int, string, bool) {
	leads := make([][]int, len(s.rules))
	for i, r := range s.rules {
		for _, name := range namesIn(r.Tree) {
			place, there := s.places[name]
			if !there {
				return nil, name, false
			}
			leads[i] = append(leads[i], place)
		}
	}
	return leads, "", true
}

// inOrder answers the grammar that has the rules of these places. Its trees are new: those that were gathered are not ours to hand out.
func (s *stock) inOrder(order []int) api.Gram {
	var g api.Gram
	for _, place := range order {
		r := s.rules[place]
		g.Rules = append(g.Rules, api.Rule{Name: strings.Clone(r.Name), At: r.At, Tree: copyOf(r.Tree)})
	}
	return g
}

// namesIn answers the names that a right tree has in it, from the left to the right.
func namesIn(t api.Tree) []string {
	return addNames(nil, t)
}

func addNames(names []string, t api.Tree) []string {
	if t.Kind == api.TreeName {
		return append(names, t.Text)
	}
	for _, kid := range t.Kids {
		names = addNames(names, kid)
	}
	return names
}

// copyOf answers a tree that shares no list of kids with the one that it is of.
func copyOf(t api.Tree) api.Tree {
	var kids []api.Tree
	for _, kid := range t.Kids {
		kids = append(kids, copyOf(kid))
	}
	t.Text = strings.Clone(t.Text)
	t.Kids = kids
	return t
}
