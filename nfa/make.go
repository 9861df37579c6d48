package nfa

import (
	"slices"

	"franking/api"
)

// maker makes the states of a machine, each one behind those that are there.
type maker struct {
	states []api.NState
	most   int
}

// part is a tree that is under way: left are its kids that are not made yet, of which the last one is the next, and to is the state toward which that is made.
type part struct {
	kind  uint8
	left  []api.Re
	to    int
	begin int // its beginning so far
}

// noBegin is the beginning so far of a choice of which no kid is made.
const noBegin = -1

func (m *maker) tooMany() bool { return len(m.states) > m.most }

// add puts a state behind the others, and answers its place.
func (m *maker) add(s api.NState) int {
	m.states = append(m.states, s)
	return len(m.states) - 1
}

// trees makes all states of some trees, of which there is one at least, and answers the beginning.
func (m *maker) trees(l []api.Re) int {
	var begins []int
	for i, r := range l {
		begins = append(begins, m.tree(r, m.add(end(i))))
	}
	last := len(begins) - 1
	begin := begins[last]
	for _, other := range slices.Backward(begins[:last]) {
		begin = m.add(split(other, begin))
	}
	return begin
}

// tree makes the states of a tree toward a state, and answers its beginning. The trees that are under way stand in a list, not in calls within calls: trees may be deeper than calls can be. It stops where there are too many states already, since a tree may have more of them than memory holds; what it answers then is not looked at.
func (m *maker) tree(r api.Re, to int) int {
	under := []part{m.opened(r, to)}
	for !m.tooMany() {
		last := len(under) - 1
		p := &under[last]
		if len(p.left) > 0 {
			under = append(under, m.opened(p.nextKid(), p.to))
			continue
		}
		if last == 0 {
			return p.begin
		}
		m.join(&under[last-1], p.begin)
		under = under[:last]
	}
	return 0
}

// opened makes what a tree makes ahead of its kids.
func (m *maker) opened(r api.Re, to int) part {
	p := part{kind: r.Kind, left: r.Kids, to: to, begin: to}
	switch r.Kind {
	case api.ReSet:
		p.begin = m.add(onByte(r.Set, to))
	case api.ReAlt:
		p.begin = noBegin
	case api.ReStar:
		// Where its kid begins is known only when that is made.
		p.begin = m.add(split(0, to))
		p.to = p.begin
	}
	return p
}

// nextKid takes the last kid that is left.
func (p *part) nextKid() api.Re {
	last := len(p.left) - 1
	kid := p.left[last]
	p.left = p.left[:last]
	return kid
}

// join makes what a tree makes behind a kid of it, which has that beginning.
func (m *maker) join(p *part, kid int) {
	switch p.kind {
	case api.ReCat:
		p.to, p.begin = kid, kid
	case api.ReAlt:
		if p.begin != noBegin {
			kid = m.add(split(kid, p.begin))
		}
		p.begin = kid
	case api.ReStar:
		m.states[p.begin].A = kid
	}
}
