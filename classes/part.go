package classes

import "franking/api"

// side is which half of a class a byte is in, if a set parts the class.
type side struct {
	class uint8
	in    bool
}

// parted answers classes with each one parted by a set. The bytes are gone through as they rise, and a class has its number when its first byte is come to, so that the first bytes rise, too.
func parted(c api.Classes, s api.Set) api.Classes {
	var out api.Classes
	numbers := make(map[side]uint8)
	for b := range 256 {
		key := side{c.Of[b], has(s, b)}
		class, ok := numbers[key]
		if !ok {
			class = uint8(len(numbers))
			numbers[key] = class
		}
		out.Of[b] = class
	}
	out.Many = len(numbers)
	return out
}

// partsAny tells whether a set tells two bytes of one class apart.
func partsAny(c api.Classes, s api.Set) bool {
	var in, out [256]bool
	for b := range 256 {
		class := c.Of[b]
		if has(s, b) {
			in[class] = true
		} else {
			out[class] = true
		}
		if in[class] && out[class] {
			return true
		}
	}
	return false
}
