package nfa

import "franking/api"

// The states, by their kinds.

func end(tag int) api.NState { return api.NState{Kind: api.NfaEnd, Tag: tag} }

func onByte(set api.Set, to int) api.NState {
	return api.NState{Kind: api.NfaByte, Set: set, A: to}
}

func split(a, b int) api.NState { return api.NState{Kind: api.NfaSplit, A: a, B: b} }

// rightState tells whether a state, of a machine of so many, is as its kind tells: it is the one that is made of what its kind names, so that all else in it is 0.
func rightState(s api.NState, many int) bool {
	switch s.Kind {
	case api.NfaEnd:
		return s == end(s.Tag) && below(s.Tag, api.MaxNames)
	case api.NfaByte:
		return s == onByte(s.Set, s.A) && s.Set != (api.Set{}) && below(s.A, many)
	case api.NfaSplit:
		return s == split(s.A, s.B) && below(s.A, many) && below(s.B, many)
	}
	return false
}

// below tells whether a number is from 0 on and below many.
func below(i, many int) bool { return i >= 0 && i < many }
