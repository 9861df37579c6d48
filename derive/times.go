package derive

// times is the step by from least to most of the kid, one behind the other; most -1: least or more.
func times(kid reach, least, most int) step {
	more := most - least
	if most == -1 {
		more = len(kid) // One for each place: further ones would come to no other places.
	}
	return func(from places) places { return upTo(kid, exactly(kid, from, least), more) }
}

// exactly answers where so many of the kid end. It stops where one more of the kid leaves the places as they are, for so would all others. It comes to that soon, however many are wanted: by a kid that derives the empty text the places become more each time, and by another one the first of them rises, until there is none.
func exactly(kid reach, here places, many int) places {
again:
	if many == 0 {
		return here
	}
	next := kid.behind(here)
	if next == here {
		return here
	}
	here = next
	many--
	goto again
}

// upTo answers where none to so many of the kid end. It goes on from those places alone that are new: from others it has gone on already, by fewer of the kid.
func upTo(kid reach, ends places, many int) places {
	edge := ends
again:
	if many == 0 {
		return ends
	}
	edge = kid.behind(edge).without(ends)
	if edge == (places{}) {
		return ends
	}
	ends.add(edge)
	many--
	goto again
}
