package dfa

import (
	"iter"
	"math/bits"
)

// marks are a bit for each state of a first machine.
type marks []uint64

// blank answers marks for so many states, of which none is set.
func blank(many int) marks { return make(marks, (many+63)/64) }

func (m marks) put(place int) { m[place/64] |= 1 << (place % 64) }

func (m marks) has(place int) bool { return m[place/64]>>(place%64)&1 == 1 }

// shared goes through the places, rising, that are marked in both of two marks, which are for as many states.
func (m marks) shared(other marks) iter.Seq[int] {
	return func(yield func(int) bool) {
		for i, word := range m {
			for word &= other[i]; word != 0; word &= word - 1 {
				if !yield(64*i + bits.TrailingZeros64(word)) {
					return
				}
			}
		}
	}
}

// appendText puts a text of the places that are marked behind some bytes. Of marks for as many states no others have the same text.
func (m marks) appendText(out []byte) []byte {
	for _, word := range m {
		for at := 0; at < 64; at += 8 {
			out = append(out, byte(word>>at))
		}
	}
	return out
}
