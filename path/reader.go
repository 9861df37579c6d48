package path

import (
	"strconv"
	"strings"

	"franking/api"
)

const (
	quote     = `"`
	backslash = `\`
)

// reader goes through a text, part by part; each part has a method that tells whether it stands there, and goes behind it.
type reader struct {
	text string
	at   int
	path api.Path // what was read so far, as a path tells it
	long bool     // some of that is beyond the limits
}

// verdict answers the error of what was read, by whether it was all there.
func (r *reader) verdict(read bool) api.Errno {
	switch {
	case !read:
		return api.ErrPath
	case r.long:
		return api.ErrLong
	}
	return api.OK
}

// limit keeps in mind whether there is more of something than may be; what is read goes on, since an error behind it counts ahead of this one.
func (r *reader) limit(many, most int) { r.long = r.long || many > most }

// whole tells whether the part is all of the text.
func (r *reader) whole(part func() bool) bool { return part() && r.at == len(r.text) }

// either reads the first of some parts that is there.
func (r *reader) either(parts ...func() bool) bool {
	from := r.at
	for _, part := range parts {
		if part() {
			return true
		}
		r.at = from
	}
	return false
}

// each reads a part as often as it is there with something between two, and answers how often; what is between is left where no part is behind it.
func (r *reader) each(part func() bool, between string) int {
	for many := 0; ; many++ {
		from := r.at
		if many > 0 && !r.take(between) || !part() {
			r.at = from
			return many
		}
	}
}

// piece reads a part, and answers the text that it has.
func (r *reader) piece(part func() bool) (string, bool) {
	from := r.at
	read := part()
	return r.text[from:r.at], read
}

// run reads as many bytes as are of a kind, and answers them.
func (r *reader) run(is func(byte) bool) string {
	from := r.at
	for r.at < len(r.text) && is(r.text[r.at]) {
		r.at++
	}
	return r.text[from:r.at]
}

// take reads what is there in just these bytes, letters great or small; the bytes are told in small letters.
func (r *reader) take(what string) bool {
	if len(r.text)-r.at < len(what) {
		return false
	}
	for i := range len(what) {
		if small(r.text[r.at+i]) != what[i] {
			return false
		}
	}
	r.at += len(what)
	return true
}

// null reads the path of nobody.
func (r *reader) null() bool {
	r.path.Null = r.take("<>")
	return r.path.Null
}

// alone reads the path of postmaster without a domain.
func (r *reader) alone() bool {
	read := r.take("<" + postmaster + ">")
	if read {
		r.path.Box.Local = postmaster
	}
	return read
}

// full reads a path that has a mailbox.
func (r *reader) full() bool {
	return r.take("<") && r.route() && r.mailbox() && r.take(">")
}

// route reads a route, if there is one.
func (r *reader) route() bool {
	many := r.each(r.hop, ",")
	r.limit(many, api.MaxRoute)
	return many == 0 || r.take(":")
}

// hop reads one of a route's domains.
func (r *reader) hop() bool {
	if !r.take("@") {
		return false
	}
	domain, read := r.piece(r.domain)
	if read {
		r.path.Route = append(r.path.Route, inSmall(domain))
	}
	return read
}

// mailbox reads a local part, and where it is.
func (r *reader) mailbox() bool {
	return r.either(r.quoted, r.plain) && r.take("@") && r.either(r.bracket, r.named)
}

// plain reads a local part that is atoms.
func (r *reader) plain() bool {
	meant, read := r.piece(r.atoms)
	r.mean(strings.Clone(meant))
	return read
}

// quoted reads a local part that stands in quotes.
func (r *reader) quoted() bool {
	if !r.take(quote) {
		return false
	}
	var meant []byte
	for !r.take(quote) {
		// Whatever may be shown may stand behind a backslash, and means itself.
		r.take(backslash)
		if r.at == len(r.text) || isNotShown(r.text[r.at]) {
			return false
		}
		meant = append(meant, r.text[r.at])
		r.at++
	}
	r.mean(string(meant))
	return true
}

// mean keeps a local part as it is meant.
func (r *reader) mean(local string) {
	r.limit(len(local), api.MaxLocal)
	r.path.Box.Local = local
}

// named reads a mailbox's domain.
func (r *reader) named() bool {
	domain, read := r.piece(r.domain)
	r.path.Box.Domain = inSmall(domain)
	return read
}

// bracket reads a literal's words in [ and ].
func (r *reader) bracket() bool {
	if !r.take("[") {
		return false
	}
	words, read := r.piece(r.words)
	if !read || !r.take("]") {
		return false
	}
	r.path.Box.Domain, r.path.Box.Literal = inSmall(words), true
	return true
}

// domain reads a domain.
func (r *reader) domain() bool {
	domain, read := r.piece(r.labels)
	r.limit(len(domain), api.MaxName)
	return read
}

// labels reads labels with dots between.
func (r *reader) labels() bool { return r.each(r.label, ".") > 0 }

// label reads one label.
func (r *reader) label() bool {
	label := r.run(isOfLabel)
	r.limit(len(label), api.MaxLabel)
	return label != "" && label[0] != '-' && label[len(label)-1] != '-'
}

// atoms reads atoms with dots between.
func (r *reader) atoms() bool { return r.each(r.atom, ".") > 0 }

// atom reads one atom.
func (r *reader) atom() bool { return r.run(isOfAtom) != "" }

// words reads a literal's words.
func (r *reader) words() bool {
	if r.take("ipv6:") {
		return r.address()
	}
	return r.each(r.number, ".") == 4
}

// number reads one of the four numbers.
func (r *reader) number() bool {
	digits := r.run(isDigit)
	if len(digits) > 3 {
		return false
	}
	n, err := strconv.Atoi(digits)
	return err == nil && n <= 255
}

// address reads groups, all eight or, with two colons in place of some, at most six.
func (r *reader) address() bool {
	ahead := r.each(r.group, ":")
	if !r.take("::") {
		return ahead == 8
	}
	return ahead+r.each(r.group, ":") <= 6
}

// group reads one group.
func (r *reader) group() bool {
	digits := r.run(isHex)
	return digits != "" && len(digits) <= 4
}
