package derive

import (
	"math/bits"

	"franking/api"
)

// places is some places of a text, as bits. A text has one place more than bytes.
type places [api.MaxDerive/64 + 1]uint64

// only answers one place.
func only(p int) places {
	var s places
	s.put(p)
	return s
}

func (s *places) put(p int) { s[p/64] |= 1 << (p % 64) }

func (s *places) add(others places) {
	for i := range s {
		s[i] |= others[i]
	}
}

func (s places) has(p int) bool { return s[p/64]>>(p%64)&1 == 1 }

// without answers these places, but for others.
func (s places) without(others places) places {
	for i, word := range others {
		s[i] &^= word
	}
	return s
}

// next answers the first of the places from p on; -1, if there is none.
func (s places) next(p int) int {
	for i := p / 64; i < len(s); i++ {
		word := s[i]
		if i == p/64 {
			word = word >> (p % 64) << (p % 64)
		}
		if word != 0 {
			return 64*i + bits.TrailingZeros64(word)
		}
	}
	return -1
}
