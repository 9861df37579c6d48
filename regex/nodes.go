package regex

import (
	"iter"

	"franking/api"
)

// nodes goes through a regular tree: itself, and all within it. The lists that are under way stand in a list, not in calls within calls: what is handed in may be deeper than calls can be.
func nodes(r api.Re) iter.Seq[api.Re] {
	return func(yield func(api.Re) bool) {
		ahead := [][]api.Re{{r}}
		for len(ahead) > 0 {
			last := len(ahead) - 1
			if len(ahead[last]) == 0 {
				ahead = ahead[:last]
				continue
			}
			node := ahead[last][0]
			ahead[last] = ahead[last][1:]
			if !yield(node) {
				return
			}
			ahead = append(ahead, node.Kids)
		}
	}
}

// rightAlone tells whether a regular tree is as its kind tells, whatever its kids are.
func rightAlone(r api.Re) bool {
	noSet := r.Set == api.Set{}
	kids := len(r.Kids)
	switch r.Kind {
	case api.ReNone:
		return noSet && kids == 0
	case api.ReSet:
		return !noSet && kids == 0
	case api.ReCat, api.ReAlt:
		return noSet && kids >= 2
	case api.ReStar:
		return noSet && kids == 1
	}
	return false
}
