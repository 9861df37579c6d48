package nfa

import (
	"iter"
	"math/bits"
)

// marks are a bit for each state of a machine. Most of many states are not marked, and a whole word of those is passed at once.
type marks []uint64

// blank answers marks for so many states, of which none is set.
func blank(many int) marks { return make(marks, (many+63)/64) }

func (m marks) put(place int) { m[place/64] |= 1 << (place % 64) }

func (m marks) has(place int) bool { return m[place/64]>>(place%64)&1 == 1 }

// all goes through the places that are marked, rising.
func (m marks) all() iter.Seq[int] {
	return func(yield func(int) bool) {
		for i, word := range m {
			for ; word != 0; word &= word - 1 {
				if !yield(64*i + bits.TrailingZeros64(word)) {
					return
				}
			}
		}
	}
}
