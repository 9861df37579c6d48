package table

import "franking/api"

// beginning is what the bytes of each table begin with.
const beginning = "FT\x01"

// packed answers the bytes of a right table. Classes may be as many as 256, and tags and states be -1: so that they fit, the former are told by one less, the latter by one more.
func packed(t api.Table) []byte {
	out := []byte(beginning)
	out = append(out, byte(t.D.Many-1))
	out = appendTwo(out, len(t.D.Tags))
	out = append(out, byte(len(t.Names)))
	for _, name := range t.Names {
		out = append(out, byte(len(name)))
		out = append(out, name...)
	}
	out = append(out, t.C.Of[:]...)
	for _, tag := range t.D.Tags {
		out = append(out, byte(tag+1))
	}
	for _, to := range t.D.Next {
		out = appendTwo(out, to+1)
	}
	return out
}

// appendTwo adds the two bytes of a number, the higher one first.
func appendTwo(out []byte, n int) []byte { return append(out, byte(n>>8), byte(n)) }
