package abnf

import "franking/api"

// mostTimes is the greatest number that tells how often something stands.
const mostTimes = 9999

// rightWithin tells whether a tree is right, and at most so deep. It stops where that is not so: what is handed in may be deeper than calls can be.
func rightWithin(t api.Tree, deep int) bool {
	if deep < 1 || !rightAlone(t) {
		return false
	}
	for _, kid := range t.Kids {
		if !rightWithin(kid, deep-1) {
			return false
		}
	}
	return true
}

// rightAlone tells whether a tree is as its kind tells, whatever its kids are.
func rightAlone(t api.Tree) bool {
	noText := t.Text == ""
	noRange := t.Lo == 0 && t.Hi == 0
	noTimes := t.Min == 0 && t.Max == 0
	kids := len(t.Kids)
	switch t.Kind {
	case api.TreeName:
		return isName(t.Text) && noRange && noTimes && kids == 0
	case api.TreeChars:
		return isChars(t.Text) && noRange && noTimes && kids == 0
	case api.TreeBytes:
		return !noText && noRange && noTimes && kids == 0
	case api.TreeRange:
		return noText && t.Lo <= t.Hi && noTimes && kids == 0
	case api.TreeRow, api.TreeOr:
		return noText && noRange && noTimes && kids >= 2
	case api.TreeTimes:
		return noText && noRange && isTimes(t.Min, t.Max) && kids == 1
	}
	return false
}

// isName tells whether a text is a name: a small letter, and small letters, digits and - behind it.
func isName(s string) bool {
	for i := range len(s) {
		if !isSmall(s[i]) && (i == 0 || !isDigit(s[i]) && s[i] != '-') {
			return false
		}
	}
	return s != ""
}

// isChars tells whether a text may stand in quotes.
func isChars(s string) bool {
	for i := range len(s) {
		if s[i] < 32 || s[i] > 126 || s[i] == '"' {
			return false
		}
	}
	return true
}

// isTimes tells whether something may stand from least to most times; most -1: as often as may be.
func isTimes(least, most int) bool {
	return least >= 0 && least <= mostTimes && (most == -1 || most >= least && most <= mostTimes)
}

func isSmall(b byte) bool { return 'a' <= b && b <= 'z' }

func isDigit(b byte) bool { return '0' <= b && b <= '9' }

// small answers a text with the letters A to Z made small, and no other letters: those of more bytes are in no name.
func small(s string) string {
	out := []byte(s)
	for i, b := range out {
		if 'A' <= b && b <= 'Z' {
			out[i] = b - 'A' + 'a'
		}
	}
	return string(out)
}
