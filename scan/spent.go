package scan

// apart is how far apart the places are at which it is kept what is spent: so little memory is enough, and no more than so many bytes are gone through in vain once more.
const apart = 64

// spent keeps at which states, at which places of a text, nothing more is told, however the text goes on. Without it a text that goes on and on, and does not end as it would have to, would be gone through up to its end from each token on.
type spent struct {
	words int              // a bit for each state
	marks map[int][]uint64 // by places
}

func newSpent(states int) spent {
	return spent{(states + 63) / 64, map[int][]uint64{}}
}

func (x *spent) has(state, place int) bool {
	if place%apart != 0 {
		return false
	}
	l, ok := x.marks[place]
	return ok && l[state/64]>>(state%64)&1 == 1
}

func (x *spent) put(state, place int) {
	if place%apart != 0 {
		return
	}
	if _, ok := x.marks[place]; !ok {
		x.marks[place] = make([]uint64, x.words)
	}
	x.marks[place][state/64] |= 1 << (state % 64)
}
