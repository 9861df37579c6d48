package dfa

import (
	"franking/api"
	"franking/classes"
)

// walk is a right first machine under way: here are the states at which it stands.
type walk struct {
	states []api.NState
	here   marks
	ends   marks
	reads  []marks // of each class, the states that go on by it
	ahead  []int   // kept for its room alone
}

// newWalk answers a machine that stands nowhere yet.
func newWalk(n api.Nfa, c api.Classes) *walk {
	w := &walk{states: n.States, here: blank(len(n.States))}
	w.ends = w.those(func(s *api.NState) bool { return s.Kind == api.NfaEnd })
	for class := range c.Many {
		least, _ := classes.First(c, class)
		w.reads = append(w.reads, w.those(func(s *api.NState) bool { return s.Kind == api.NfaByte && has(s.Set, least) }))
	}
	return w
}

// those marks the states that are so.
func (w *walk) those(so func(*api.NState) bool) marks {
	m := blank(len(w.states))
	for place := range w.states {
		if so(&w.states[place]) {
			m.put(place)
		}
	}
	return m
}

// read lets the machine stand at what some states come to by a class, and answers whether that is any state.
func (w *walk) read(from marks, class int) bool {
	clear(w.here)
	came := false
	for place := range from.shared(w.reads[class]) {
		w.come(w.states[place].A)
		came = true
	}
	return came
}

// come marks what a state comes to without a byte. Ways may go round, or be longer than calls can be nested: a state that is marked is not gone on from again, and those that are ahead stand in a list.
func (w *walk) come(place int) {
	ahead := append(w.ahead[:0], place)
	for len(ahead) > 0 {
		last := len(ahead) - 1
		place := ahead[last]
		ahead = ahead[:last]
		if w.here.has(place) {
			continue
		}
		w.here.put(place)
		if s := &w.states[place]; s.Kind == api.NfaSplit {
			ahead = append(ahead, s.A, s.B)
		}
	}
	w.ahead = ahead
}

// tag tells the least tag where the machine stands, or -1.
func (w *walk) tag() int {
	tag := noTag
	for place := range w.here.shared(w.ends) {
		if other := w.states[place].Tag; tag == noTag || other < tag {
			tag = other
		}
	}
	return tag
}

// has tells whether a byte is in a set.
func has(s api.Set, b byte) bool { return s[b/64]>>(b%64)&1 == 1 }
