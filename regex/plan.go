package regex

import "franking/api"

// tooMany is what the size of a plan is told as, if it is more than every cap.
const tooMany = api.MaxRe + 1

// plan is a regular tree that is not made yet. Its size is known ahead of the making: a short rule may be a tree that no memory holds. What it builds is new each time, so that nothing of an answer is shared.
type plan struct {
	size  int
	build func() api.Re
}

// run is a plan, and how often it stands, which is once at least. (A list of as many plans would be long, where nothing may be built of it.)
type run struct {
	of    plan
	times int
}

func none() plan {
	return plan{size: 1, build: func() api.Re { return api.Re{} }}
}

func ofSet(set api.Set) plan {
	return plan{size: 1, build: func() api.Re { return leaf(set) }}
}

func leaf(set api.Set) api.Re { return api.Re{Kind: api.ReSet, Set: set} }

// ofKids is a regular tree of that kind, of these kids.
func ofKids(kind uint8, kids []run) plan {
	size, many := 1, 0
	for _, kid := range kids {
		size = min(size+kid.times*kid.of.size, tooMany)
		many += kid.times
	}
	build := func() api.Re {
		r := api.Re{Kind: kind, Kids: make([]api.Re, 0, many)}
		for _, kid := range kids {
			for range kid.times {
				r.Kids = append(r.Kids, kid.of.build())
			}
		}
		return r
	}
	return plan{size: size, build: build}
}

// row is the row of these. One alone is left as it is, and not built by a call more: rules may be one another over and over, further than calls can be nested.
func row(kids []run) plan {
	switch {
	case len(kids) == 0:
		return none()
	case len(kids) == 1 && kids[0].times == 1:
		return kids[0].of
	}
	return ofKids(api.ReCat, kids)
}

// ofText is the row of the sets of a text's bytes.
func ofText(text string, setOf func(byte) api.Set) plan {
	switch len(text) {
	case 0:
		return none()
	case 1:
		return ofSet(setOf(text[0]))
	}
	build := func() api.Re {
		r := api.Re{Kind: api.ReCat, Kids: make([]api.Re, len(text))}
		for i := range len(text) {
			r.Kids[i] = leaf(setOf(text[i]))
		}
		return r
	}
	return plan{size: min(len(text)+1, tooMany), build: build}
}

// ofTimes is from least to most times r; most -1: as often as may be.
func ofTimes(least, most int, r plan) plan {
	var kids []run
	if least > 0 {
		kids = append(kids, run{r, least})
	}
	switch {
	case most == -1:
		kids = append(kids, run{ofKids(api.ReStar, []run{{r, 1}}), 1})
	case most > least:
		kids = append(kids, run{asOftenAs(most-least, r), 1})
	}
	return row(kids)
}

// asOftenAs is what is as often as many, of r; many is above 0.
func asOftenAs(many int, r plan) plan {
	build := func() api.Re {
		out := perhaps(r.build())
		for range many - 1 {
			out = perhaps(api.Re{Kind: api.ReCat, Kids: []api.Re{r.build(), out}})
		}
		return out
	}
	// Each r has ReAlt, ReNone and ReCat beside it; the innermost one has no ReCat.
	return plan{size: min(many*(r.size+3)-1, tooMany), build: build}
}

func perhaps(r api.Re) api.Re {
	return api.Re{Kind: api.ReAlt, Kids: []api.Re{{}, r}}
}
