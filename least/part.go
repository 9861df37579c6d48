package least

import (
	"cmp"
	"maps"
	"slices"

	"franking/api"
)

// parting is a closed machine's states as groups, which are cut as long as a class tells states of one of them apart.
type parting struct {
	d      api.Dfa
	back   ways
	groups [][]int          // of each group, its states
	of     []int            // of each state, its group
	spots  []int            // of each state, where it stands in its group's list
	marked []int            // of each group, how many of its states, the last ones, are marked
	waits  map[int]struct{} // the groups that are still to be held against all groups
}

// parted answers groups of a closed machine's states of which each has all states that are alike, and no others.
func parted(d api.Dfa) *parting {
	p := byTags(d)
	for len(p.waits) > 0 {
		// What waits while these are held, is held behind them: in which order is the same, so it is one that does not hang on the map.
		for _, group := range slices.Sorted(maps.Keys(p.waits)) {
			delete(p.waits, group)
			p.hold(group)
		}
	}
	return p
}

// byTags answers the groups of a closed machine's states that have the same tag, all of which wait.
func byTags(d api.Dfa) *parting {
	many := len(d.Tags)
	p := &parting{d: d, back: waysBack(d), of: make([]int, many), spots: make([]int, many), waits: map[int]struct{}{}}
	left := make([]int, many)
	for state := range left {
		left[state] = state
	}
	slices.SortStableFunc(left, func(a, b int) int { return cmp.Compare(d.Tags[a], d.Tags[b]) })
	for len(left) > 0 {
		end := 1
		for end < len(left) && d.Tags[left[end]] == d.Tags[left[0]] {
			end++
		}
		p.waits[p.add(left[:end:end])] = struct{}{}
		left = left[end:]
	}
	return p
}

// add puts down a group of a list of states, and answers its number.
func (p *parting) add(list []int) int {
	group := len(p.groups)
	p.groups = append(p.groups, list)
	p.marked = append(p.marked, 0)
	for spot, state := range list {
		p.of[state], p.spots[state] = group, spot
	}
	return group
}

// hold cuts each group, by each class, into the states that come to a group and those that do not.
func (p *parting) hold(group int) {
	// It may be cut itself meanwhile; it is held as it was.
	states := slices.Clone(p.groups[group])
	var met []int
	for class := range p.d.Many {
		met = met[:0]
		for _, state := range states {
			for _, from := range p.back.to(state, class) {
				met = p.mark(from, met)
			}
		}
		for _, one := range met {
			p.cut(one)
		}
	}
}

// mark moves a state to the marked ones of its group, and answers the groups that have some.
func (p *parting) mark(state int, met []int) []int {
	group := p.of[state]
	if p.marked[group] == 0 {
		met = append(met, group)
	}
	p.marked[group]++
	list := p.groups[group]
	spot, to := p.spots[state], len(list)-p.marked[group]
	other := list[to]
	list[spot], list[to] = other, state
	p.spots[other], p.spots[state] = spot, to
	return met
}

// cut makes the marked states of a group one of their own, if there are others.
func (p *parting) cut(group int) {
	list := p.groups[group]
	rest := len(list) - p.marked[group]
	p.marked[group] = 0
	if rest == 0 {
		return
	}
	p.groups[group] = list[:rest:rest]
	other := p.add(list[rest:])
	// All groups were held against the whole of it, unless it waits still: what one part tells apart of them the other one does, too, so that the smaller one is enough.
	_, waits := p.waits[group]
	if waits || len(p.groups[other]) <= rest {
		p.waits[other] = struct{}{}
	} else {
		p.waits[group] = struct{}{}
	}
}
