package header

import (
	"bytes"
	"strings"

	"franking/api"
)

const (
	colon   = ":"
	blank   = " "
	blanks  = " \t"
	lineEnd = "\r\n"
)

// read hands on the header's fields, up to the first wrong line: the name of each one, and all that stands behind its colon. It tells where the text begins, or ErrHeader and where the wrong line does.
func read(body []byte, field func(name, behind []byte)) (int, api.Errno) {
	next := lines(body)
	line, at, more := next()
	for more {
		name, _, cut := bytes.Cut(line, []byte(colon))
		if !cut || !isName(name) {
			return at, api.ErrHeader
		}
		from := at + len(name) + len(colon)
		line, at, more = next()
		for more && isBlank(line[0]) {
			line, at, more = next()
		}
		field(name, body[from:at])
	}
	return at, api.OK
}

// lines answers what hands on the lines of the header, one a call, each a piece of the body and where it begins; behind the last one it tells false, and where the text begins.
func lines(body []byte) func() ([]byte, int, bool) {
	at := 0
	return func() ([]byte, int, bool) {
		line, behind, _ := bytes.Cut(body[at:], []byte(lineEnd))
		begin := at
		at = len(body) - len(behind)
		// A line without bytes is the empty one, or there is none any more.
		if len(line) == 0 {
			return nil, at, false
		}
		return line, begin, true
	}
}

// textOf answers the text of a field, of all that stands behind its colon.
func textOf(behind []byte) string {
	return string(bytes.Trim(bytes.ReplaceAll(behind, []byte(lineEnd), nil), blanks))
}

// printed puts a field that is right behind what is there.
func printed(there []byte, f api.Field) []byte {
	line := f.Name + colon
	if f.Text != "" {
		line += blank + f.Text
	}
	for cut := cutOf(line); cut > 0; cut = cutOf(line) {
		there = append(append(there, line[:cut]...), lineEnd...)
		line = line[cut:]
	}
	return append(append(there, line...), lineEnd...)
}

// cutOf answers the place of the blank that a line is cut ahead of, 0 if it is not cut. (What stands at 0 may be the blank of the cut before.)
func cutOf(line string) int {
	if len(line) <= api.MaxFold {
		return 0
	}
	behind := api.MaxFold + 1
	if near := strings.LastIndexAny(line[1:behind], blanks); near >= 0 {
		return 1 + near
	}
	if far := strings.IndexAny(line[behind:], blanks); far >= 0 {
		return behind + far
	}
	return 0
}

// isName tells whether a text may be a field's name.
func isName(s []byte) bool {
	for _, c := range s {
		if c < '!' || c > '~' || c == colon[0] {
			return false
		}
	}
	return len(s) > 0
}

// isSame tells whether two names are the same. (What the library has for letters takes more than A to Z for such.)
func isSame(a, b string) bool {
	if len(a) != len(b) {
		return false
	}
	for i := range len(a) {
		if small(a[i]) != small(b[i]) {
			return false
		}
	}
	return true
}

func isBlank(c byte) bool { return strings.IndexByte(blanks, c) >= 0 }

// small answers a letter as the small one, and any other byte as it is.
func small(c byte) byte {
	if 'A' <= c && c <= 'Z' {
		return c - 'A' + 'a'
	}
	return c
}
