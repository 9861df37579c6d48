package least

import "franking/api"

// ways tell which states come to a state by a class. They stand in one list, as there may be very many of which each is short.
type ways struct {
	many   int
	from   []int
	begins []int // of each state and class, where its part of from begins
}

// waysBack answers the ways of a closed machine.
func waysBack(d api.Dfa) ways {
	w := ways{many: d.Many, from: make([]int, len(d.Next)), begins: make([]int, len(d.Next)+1)}
	for i, to := range d.Next {
		w.begins[w.part(to, i%w.many)]++
	}
	for part := range len(d.Next) {
		w.begins[part+1] += w.begins[part]
	}
	// Each one is where its part ends now, and goes down to where it begins as the part is filled.
	for i, to := range d.Next {
		part := w.part(to, i%w.many)
		w.begins[part]--
		w.from[w.begins[part]] = i / w.many
	}
	return w
}

// part answers the number of the part of a state and a class.
func (w ways) part(state, class int) int { return state*w.many + class }

// to answers the states that come to a state by a class.
func (w ways) to(state, class int) []int {
	part := w.part(state, class)
	return w.from[w.begins[part]:w.begins[part+1]]
}
