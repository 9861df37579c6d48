package nfa

import "franking/api"

// walk is a right machine under way: here are the states at which it stands, next those at which it is to stand behind the byte that is read.
type walk struct {
	states     []api.NState
	here, next marks
	ahead      []int // kept for its room alone
}

// begun answers the machine as it stands behind no bytes.
func begun(n api.Nfa) *walk {
	many := len(n.States)
	w := &walk{states: n.States, here: blank(many), next: blank(many)}
	w.come(n.Start)
	copy(w.here, w.next)
	return w
}

// read goes on by a byte.
func (w *walk) read(b byte) {
	clear(w.next)
	for place := range w.here.all() {
		if s := &w.states[place]; s.Kind == api.NfaByte && has(s.Set, b) {
			w.come(s.A)
		}
	}
	copy(w.here, w.next)
}

// come marks what a state comes to without a byte. Ways may go round, or be longer than calls can be nested: a state that is marked is not gone on from again, and those that are ahead stand in a list.
func (w *walk) come(place int) {
	ahead := append(w.ahead[:0], place)
	for len(ahead) > 0 {
		last := len(ahead) - 1
		place := ahead[last]
		ahead = ahead[:last]
		if w.next.has(place) {
			continue
		}
		w.next.put(place)
		if s := &w.states[place]; s.Kind == api.NfaSplit {
			ahead = append(ahead, s.A, s.B)
		}
	}
	w.ahead = ahead
}

// tag tells the least tag where the machine stands, or -1.
func (w *walk) tag() int {
	tag := -1
	for place := range w.here.all() {
		if s := &w.states[place]; s.Kind == api.NfaEnd && (tag == -1 || s.Tag < tag) {
			tag = s.Tag
		}
	}
	return tag
}

// has tells whether a byte is in a set.
func has(s api.Set, b byte) bool { return s[b/64]>>(b%64)&1 == 1 }
