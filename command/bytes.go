package command

import "strings"

// keyBytes are the bytes of keys, as they are told.
const keyBytes = "ABCDEFGHIJKLMNOPQRSTUVWXYZ0123456789-"

func isOfKey(c byte) bool { return strings.IndexByte(keyBytes, great(c)) >= 0 }

func isShown(c byte) bool { return ' ' <= c && c <= '~' }

func isOfValue(c byte) bool { return '!' <= c && c <= '~' && c != '=' }

// great answers a letter as the great one, and any other byte as it is.
func great(c byte) byte {
	if 'a' <= c && c <= 'z' {
		return c - 'a' + 'A'
	}
	return c
}

// small answers a letter as the small one, and any other byte as it is.
func small(c byte) byte {
	if 'A' <= c && c <= 'Z' {
		return c - 'A' + 'a'
	}
	return c
}

// each answers a new text of what becomes of each byte. (What the library has for letters takes more than A to Z for such.)
func each(s string, become func(byte) byte) string {
	b := []byte(s)
	for i, c := range b {
		b[i] = become(c)
	}
	return string(b)
}

// some tells whether there is a byte at least, and all are as is asked.
func some(s string, is func(byte) bool) bool {
	for i := range len(s) {
		if !is(s[i]) {
			return false
		}
	}
	return s != ""
}
