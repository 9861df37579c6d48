package scan

import "franking/api"

// walk goes through a text by a right table, from one token to the next one.
type walk struct {
	t     api.Table
	s     string
	spent spent
}

func newWalk(t api.Table, s string) *walk {
	return &walk{t: t, s: s, spent: newSpent(len(t.D.Tags))}
}

// token answers the token at a place, if there is one.
func (w *walk) token(at int) (api.Piece, bool) {
	p := api.Piece{At: at}
	state, last := 0, 0
	for place := at; place < len(w.s); {
		state = next(&w.t, state, w.s[place])
		place++
		if state == nowhere || w.spent.has(state, place) {
			break
		}
		if tag := w.t.D.Tags[state]; tag != noTag {
			p.Tag, p.Len, last = tag, place-at, state
		}
	}
	if p.Len == 0 {
		return api.Piece{}, false
	}
	w.spend(last, at+p.Len)
	return p, true
}

// spend goes from a token's end on as far as was gone in vain, and keeps that it was.
func (w *walk) spend(state, place int) {
	for place < len(w.s) {
		state = next(&w.t, state, w.s[place])
		place++
		if state == nowhere || w.spent.has(state, place) {
			return
		}
		w.spent.put(state, place)
	}
}
