package classes

import "franking/api"

// eachSet hands on each set of some regular trees, in no order that is told. The lists of kids that are ahead stand in a list, not in calls within calls: trees may be deeper than calls can be.
func eachSet(l []api.Re, do func(api.Set)) {
	ahead := [][]api.Re{l}
	for len(ahead) > 0 {
		last := len(ahead) - 1
		list := ahead[last]
		ahead = ahead[:last]
		for _, r := range list {
			if r.Kind == api.ReSet {
				do(r.Set)
			}
			if len(r.Kids) > 0 {
				ahead = append(ahead, r.Kids)
			}
		}
	}
}

// has tells whether a byte is in a set.
func has(s api.Set, b int) bool { return s[b/64]>>(b%64)&1 == 1 }
