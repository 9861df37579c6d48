package path

import "strings"

// atomMarks are the bytes of atoms, but for letters and digits.
const atomMarks = "!#$%&'*+-/=?^_`{|}~"

func isDigit(c byte) bool { return '0' <= c && c <= '9' }

func isHex(c byte) bool { return isDigit(c) || 'a' <= small(c) && small(c) <= 'f' }

func isLetDig(c byte) bool { return isDigit(c) || 'a' <= small(c) && small(c) <= 'z' }

func isOfLabel(c byte) bool { return isLetDig(c) || c == '-' }

func isOfAtom(c byte) bool { return isLetDig(c) || strings.IndexByte(atomMarks, c) >= 0 }

// isNotShown tells whether a byte may not stand in quotes, even behind a backslash.
func isNotShown(c byte) bool { return c < ' ' || c > '~' }

// small answers a letter as the small one, and any other byte as it is.
func small(c byte) byte {
	if 'A' <= c && c <= 'Z' {
		return c + 'a' - 'A'
	}
	return c
}

// inSmall answers a new text with each of its letters as the small one.
func inSmall(s string) string {
	b := []byte(s)
	for i, c := range b {
		b[i] = small(c)
	}
	return string(b)
}
