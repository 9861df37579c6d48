package table

import (
	"slices"

	"franking/api"
)

// reader reads bytes, one behind the other. What is wanted where there are not as many is nothing, and the count tells so in the end.
type reader struct {
	count
	b []byte
}

func readerOf(b []byte) *reader { return &reader{count{all: len(b)}, b} }

// table reads what may be a table; whether it is a right one is not looked at.
func (r *reader) table() api.Table {
	var t api.Table
	if string(r.some(len(beginning))) != beginning {
		return t
	}
	many := r.number(1) + 1
	states := r.number(2)
	t.Names = r.names(r.number(1))
	t.C.Many, t.D.Many = many, many
	copy(t.C.Of[:], r.some(len(t.C.Of)))
	t.D.Tags = r.lessOne(states, 1)
	t.D.Next = r.lessOne(states*many, 2)
	return t
}

func (r *reader) names(many int) []string {
	l := make([]string, many)
	for i := range l {
		l[i] = string(r.some(r.number(1)))
	}
	return l
}

// lessOne reads numbers of so many bytes each, and answers each of them less one.
func (r *reader) lessOne(many, width int) []int {
	// The bytes are taken ahead of the list's making: a few that tell of very many states ask for no memory.
	all := r.some(many * width)
	l := make([]int, 0, len(all)/width)
	for b := range slices.Chunk(all, width) {
		l = append(l, numberOf(b)-1)
	}
	return l
}

// number reads a number of so many bytes.
func (r *reader) number(width int) int { return numberOf(r.some(width)) }

// some answers the next bytes, if there are so many.
func (r *reader) some(many int) []byte {
	from, ok := r.goOn(many)
	if !ok {
		return nil
	}
	return r.b[from:r.at]
}

// numberOf answers the number that some bytes are, the higher ones first.
func numberOf(l []byte) int {
	n := 0
	for _, b := range l {
		n = n<<8 | int(b)
	}
	return n
}
