package regex

import "franking/api"

// span answers the set of all bytes from lo to hi.
func span(lo, hi uint8) api.Set {
	var set api.Set
	for b := int(lo); b <= int(hi); b++ {
		set[b/64] |= 1 << (b % 64)
	}
	return set
}

// alone answers the set of one byte.
func alone(b byte) api.Set { return span(b, b) }

// eitherCase answers the set of one byte; of a letter it has the great and the small one.
func eitherCase(b byte) api.Set {
	switch {
	case 'a' <= b && b <= 'z':
		return both(b, b-'a'+'A')
	case 'A' <= b && b <= 'Z':
		return both(b, b-'A'+'a')
	}
	return alone(b)
}

func both(a, b byte) api.Set {
	set, other := alone(a), alone(b)
	for i, word := range other {
		set[i] |= word
	}
	return set
}
