package lex

// noDigit is as much as the greatest base, so that it is below none.
const noDigit = 16

func isBlank(b byte) bool { return b == ' ' || b == '\t' }

func isLetter(b byte) bool { return 'a' <= b && b <= 'z' || 'A' <= b && b <= 'Z' }

func isDigit(b byte) bool { return '0' <= b && b <= '9' }

// isNamed tells whether a byte may stand in a name behind its first letter.
func isNamed(b byte) bool { return isLetter(b) || isDigit(b) || b == '-' }

// isTimes tells whether a byte begins how often something stands.
func isTimes(b byte) bool { return isDigit(b) || b == '*' }

// digitOf answers what a digit means, or noDigit.
func digitOf(b byte) uint8 {
	switch {
	case isDigit(b):
		return b - '0'
	case 'a' <= b && b <= 'f':
		return b - 'a' + 10
	case 'A' <= b && b <= 'F':
		return b - 'A' + 10
	}
	return noDigit
}

// stands tells whether the byte b is at the place at.
func stands(s string, at int, b byte) bool { return at < len(s) && s[at] == b }

// span counts the bytes at the beginning of s that are such ones.
func span(s string, is func(byte) bool) int {
	many := 0
	for many < len(s) && is(s[many]) {
		many++
	}
	return many
}
