package table

import "franking/api"

const mostName = 64 // bytes of a name

// rightNames tells whether some texts are names, neither none nor too many, and no two the same.
func rightNames(l []string) bool {
	if len(l) < 1 || len(l) > api.MaxNames {
		return false
	}
	met := make(map[string]struct{}, len(l))
	for _, name := range l {
		if !isName(name) {
			return false
		}
		met[name] = struct{}{}
	}
	return len(met) == len(l)
}

func isName(s string) bool {
	if len(s) < 1 || len(s) > mostName || !isSmall(s[0]) {
		return false
	}
	for i := range len(s) {
		if !isSmall(s[i]) && !isDigit(s[i]) && s[i] != '-' {
			return false
		}
	}
	return true
}

func isSmall(b byte) bool { return 'a' <= b && b <= 'z' }

func isDigit(b byte) bool { return '0' <= b && b <= '9' }
