package dfa

import (
	"slices"

	"franking/api"
)

// maker makes the states of a second machine, each one behind those that are there.
type maker struct {
	w      *walk
	stands found[marks] // of each state, where the first machine stands
	next   []int
	tags   []int
	text   []byte // kept for its room alone
}

// begun answers what makes the second machine of a right first one, and of classes that its sets fit. The state 0 is there.
func begun(n api.Nfa, c api.Classes) *maker {
	m := &maker{w: newWalk(n, c), stands: nothing[marks]()}
	m.w.come(n.Start)
	m.state()
	return m
}

func (m *maker) many() int { return len(m.tags) }

// comeOn tells, behind what is told in Next, where a state comes to by a class.
func (m *maker) comeOn(state, class int) {
	to := nowhere
	if m.w.read(m.stands.things[state], class) {
		to = m.state()
	}
	m.next = append(m.next, to)
}

// state answers the place of the state that is where the first machine has come to: a new one, if it is not there already.
func (m *maker) state() int {
	here := m.w.here
	m.text = here.appendText(m.text[:0])
	if place, ok := m.stands.place(m.text); ok {
		return place
	}
	m.stands.add(m.text, slices.Clone(here))
	m.tags = append(m.tags, m.w.tag())
	return m.many() - 1
}
