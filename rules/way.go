package rules

import "slices"

// walker goes ways through rules, which it knows by their places.
type walker struct {
	ahead [][]int // of each rule where it is to go on to, of which nothing was tried yet
	been  []bool
	from  []int // where each rule was gone to from
	come  []int // the rules in the order in which they were come to
}

// newWalker answers a walker that goes on from each rule to those that are told of it.
func newWalker(on [][]int) *walker {
	return &walker{ahead: slices.Clone(on), been: make([]bool, len(on)), from: make([]int, len(on))}
}

// through goes the way through a rule. It goes in loops, not in calls within calls: rules may lead on further than calls can be nested.
func (w *walker) through(first int) {
	if w.been[first] {
		return
	}
	here := first
way:
	for {
		w.been[here] = true
		next, ok := w.onward(here)
		for !ok {
			w.come = append(w.come, here)
			if here == first {
				break way
			}
			here = w.from[here]
			next, ok = w.onward(here)
		}
		w.from[next] = here
		here = next
	}
}

// onward answers the next rule to go on to, if there is one where the walker has not been.
func (w *walker) onward(here int) (int, bool) {
	for len(w.ahead[here]) > 0 {
		next := w.ahead[here][0]
		w.ahead[here] = w.ahead[here][1:]
		if !w.been[next] {
			return next, true
		}
	}
	return 0, false
}

// orderOf answers the order in which rules are come to, on the way through the first one that stands, and so on.
func orderOf(leads [][]int) []int {
	w := newWalker(leads)
	for place := range leads {
		w.through(place)
	}
	return w.come
}

// firstLoop answers the first rule, as they stand, that leads to itself. Ways back, from those that were come to last, part the rules into groups: those of a group, and no others, lead to one another. (To ask each rule by itself would take too long of many.)
func firstLoop(leads [][]int, order []int) (int, bool) {
	loops := make([]bool, len(leads))
	w := newWalker(turned(leads))
	for _, last := range slices.Backward(order) {
		had := len(w.come)
		w.through(last)
		group := w.come[had:]
		for _, place := range group {
			loops[place] = len(group) > 1 || slices.Contains(leads[place], place)
		}
	}
	place := slices.Index(loops, true)
	return max(place, 0), place >= 0
}

// turned tells of each rule which ones have its name in them.
func turned(leads [][]int) [][]int {
	back := make([][]int, len(leads))
	for place, on := range leads {
		for _, next := range on {
			back[next] = append(back[next], place)
		}
	}
	return back
}
