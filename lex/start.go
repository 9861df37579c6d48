package lex

import (
	"strings"

	"franking/api"
)

// The most digits of a number, and of a value.
const (
	numberDigits = 4
	valueDigits  = 8
)

// start is a row of the table of tokens: what begins one, and how it is read. Both are handed the line from the token's place on, which is never empty.
type start struct {
	begins func(rest string) bool
	read   func(rest string) piece
}

// piece is what was read of a line. A token of kind 0 is none: the bytes are passed over. Where there is an error, bad is its place, from the piece's first byte on.
type piece struct {
	tok  api.Tok
	size int
	bad  int
	err  api.Errno
}

// starts is the table of tokens. Of the rows the first one that fits counts, so =/ stands ahead of =, and the row that fits everything is the last one.
func starts() []start {
	return []start{
		{begins: byteThat(isBlank), read: passBlanks},
		{begins: text(";"), read: passRemark},
		{begins: byteThat(isLetter), read: readName},
		sign("=/", api.TokMore),
		sign("=", api.TokIs),
		sign("/", api.TokOr),
		sign("(", api.TokOpen),
		sign(")", api.TokShut),
		sign("[", api.TokMay),
		sign("]", api.TokDone),
		{begins: byteThat(isTimes), read: readTimes},
		{begins: text(`"`), read: readChars},
		{begins: text("%"), read: readValues},
		{begins: text("<"), read: refuse(api.ErrProse)},
		{begins: text(""), read: refuse(api.ErrByte)},
	}
}

// byteThat fits where the first byte is such a one.
func byteThat(is func(byte) bool) func(string) bool {
	return func(rest string) bool { return is(rest[0]) }
}

// text fits where just that text stands.
func text(want string) func(string) bool {
	return func(rest string) bool { return strings.HasPrefix(rest, want) }
}

// sign is the row of a token that has no fields.
func sign(want string, kind uint8) start {
	found := piece{tok: api.Tok{Kind: kind}, size: len(want)}
	return start{begins: text(want), read: func(string) piece { return found }}
}

// refuse reads nothing: what stands there is an error at its place.
func refuse(err api.Errno) func(string) piece {
	return func(string) piece { return fault(0, err) }
}

func fault(bad int, err api.Errno) piece { return piece{bad: bad, err: err} }

func passBlanks(rest string) piece { return piece{size: span(rest, isBlank)} }

func passRemark(rest string) piece { return piece{size: len(rest)} }

func readName(rest string) piece {
	size := span(rest, isNamed)
	name := strings.Clone(rest[:size])
	return piece{tok: api.Tok{Kind: api.TokName, Text: name}, size: size}
}

// readTimes reads a number, or none, and perhaps * and a number, or none.
func readTimes(rest string) piece {
	size := span(rest, isDigit)
	if size > numberDigits {
		return fault(0, api.ErrNumber)
	}
	least := int(number(rest[:size], 10))
	most := least
	if stands(rest, size, '*') {
		second := size + 1
		size = second + span(rest[second:], isDigit)
		if size-second > numberDigits {
			return fault(second, api.ErrNumber)
		}
		most = -1
		if size > second {
			most = int(number(rest[second:size], 10))
		}
	}
	if most >= 0 && most < least {
		return fault(0, api.ErrTimes)
	}
	return piece{tok: api.Tok{Kind: api.TokTimes, Min: least, Max: most}, size: size}
}

// readChars reads a quoted text. Runes do here as well as bytes: one of several bytes, or a byte that is no rune, is beyond 126, and takes no quote along.
func readChars(rest string) piece {
	inside := rest[1:]
	for i, r := range inside {
		if r == '"' {
			chars := strings.Clone(inside[:i])
			return piece{tok: api.Tok{Kind: api.TokChars, Text: chars}, size: i + 2}
		}
		if r < 32 || r > 126 {
			break
		}
	}
	return fault(0, api.ErrChars)
}

// readValues reads %, a base, and a value, a range of values, or values with points between.
func readValues(rest string) piece {
	wrong := fault(0, api.ErrValue)
	base := baseOf(rest)
	first, size, ok := readValue(rest, 2, base)
	if !ok {
		return wrong
	}
	if stands(rest, size, '-') {
		last, size, ok := readValue(rest, size+1, base)
		if !ok || first > last {
			return wrong
		}
		return piece{tok: api.Tok{Kind: api.TokRange, Lo: first, Hi: last}, size: size}
	}
	values := []byte{first}
	for stands(rest, size, '.') {
		next, behind, ok := readValue(rest, size+1, base)
		if !ok {
			return wrong
		}
		values = append(values, next)
		size = behind
	}
	return piece{tok: api.Tok{Kind: api.TokBytes, Text: string(values)}, size: size}
}

// baseOf answers the base that stands behind %, or 0, of which nothing is a digit.
func baseOf(rest string) uint8 {
	if len(rest) < 2 {
		return 0
	}
	switch rest[1] {
	case 'x', 'X':
		return 16
	case 'd', 'D':
		return 10
	case 'b', 'B':
		return 2
	}
	return 0
}

// readValue reads the value that begins at the place at; it answers the place behind it, too.
func readValue(rest string, at int, base uint8) (uint8, int, bool) {
	if at > len(rest) {
		return 0, 0, false
	}
	size := span(rest[at:], func(b byte) bool { return digitOf(b) < base })
	if size < 1 || size > valueDigits {
		return 0, 0, false
	}
	value := number(rest[at:at+size], base)
	if value > 255 {
		return 0, 0, false
	}
	return uint8(value), at + size, true
}

// number answers what the digits mean. Eight digits of base 16 may be more than an int holds.
func number(digits string, base uint8) uint64 {
	sum := uint64(0)
	for i := range len(digits) {
		sum = sum*uint64(base) + uint64(digitOf(digits[i]))
	}
	return sum
}
