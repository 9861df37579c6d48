package derive

import "franking/api"

// step answers where texts end that a tree derives, if they begin at one of some places.
type step func(from places) places

// reach is of each place where texts end that begin there.
type reach []places

// behind answers where texts end that begin at one of some places.
func (r reach) behind(from places) places {
	var ends places
	for p := from.next(0); p >= 0; p = from.next(p + 1) {
		ends.add(r[p])
	}
	return ends
}

// reader knows a text, and of some rules, by their names, where they end in it.
type reader struct {
	text  string
	known map[string]reach
}

// stepOf answers the step of a tree; the rules whose names it has in it are known.
func (r reader) stepOf(t api.Tree) step {
	switch t.Kind {
	case api.TreeName:
		return r.known[t.Text].behind
	case api.TreeChars:
		return r.leaf(len(t.Text), func(s string) bool { return alike(s, t.Text) })
	case api.TreeBytes:
		return r.leaf(len(t.Text), func(s string) bool { return s == t.Text })
	case api.TreeRange:
		return r.leaf(1, func(s string) bool { return t.Lo <= s[0] && s[0] <= t.Hi })
	case api.TreeRow:
		return row(r.stepsOf(t.Kids))
	case api.TreeOr:
		return choice(r.stepsOf(t.Kids))
	}
	return times(r.reachOf(t.Kids[0]), t.Min, t.Max)
}

func (r reader) stepsOf(trees []api.Tree) []step {
	var steps []step
	for _, t := range trees {
		steps = append(steps, r.stepOf(t))
	}
	return steps
}

// reachOf answers a tree's reach. What is asked for again and again, as a rule is, and what stands many times, is looked for but once by it: there may be more ways through such trees than can be gone.
func (r reader) reachOf(t api.Tree) reach {
	if t.Kind == api.TreeName {
		return r.known[t.Text]
	}
	ends := r.stepOf(t)
	out := make(reach, len(r.text)+1)
	for p := range out {
		out[p] = ends(only(p))
	}
	return out
}

// leaf is the step over texts of so many bytes that are such ones.
func (r reader) leaf(long int, is func(s string) bool) step {
	return func(from places) places {
		var ends places
		for p := from.next(0); p >= 0; p = from.next(p + 1) {
			if long <= len(r.text)-p && is(r.text[p:p+long]) {
				ends.put(p + long)
			}
		}
		return ends
	}
}

// alike tells whether two texts of as many bytes are the same but for great and small letters.
func alike(s, other string) bool {
	for i := range len(s) {
		if small(s[i]) != small(other[i]) {
			return false
		}
	}
	return true
}

func small(b byte) byte {
	if 'A' <= b && b <= 'Z' {
		return b - 'A' + 'a'
	}
	return b
}

// row is the step by all kids, one behind the other.
func row(kids []step) step {
	return func(from places) places {
		for _, kid := range kids {
			from = kid(from)
		}
		return from
	}
}

// choice is the step by any of the kids.
func choice(kids []step) step {
	return func(from places) places {
		var ends places
		for _, kid := range kids {
			ends.add(kid(from))
		}
		return ends
	}
}
