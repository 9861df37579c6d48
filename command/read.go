package command

import (
	"strings"

	"franking/api"
	"franking/path"
)

// What stands ahead of the path of MAIL, and of that of RCPT.
const (
	from = "FROM:"
	to   = "TO:"
)

// verbOf answers the verb that a word says, 0 if it says none.
func verbOf(word string) uint8 {
	said := each(word, great)
	for verb := api.VerbHelo; verb <= api.VerbQuit; verb++ {
		if words[verb] == said {
			return verb
		}
	}
	return 0
}

// told answers what is told of a verb and what stands behind its word, and whether that may stand there; blank: there is a blank behind the word.
func told(verb uint8, behind string, blank bool) (api.Cmd, bool) {
	c, may := api.Cmd{Verb: verb}, false
	switch verb {
	case api.VerbHelo:
		c.Arg, may = each(behind, small), path.Domain(behind)
	case api.VerbEhlo:
		c.Arg, may = each(behind, small), path.Domain(behind) || isBracket(behind)
	case api.VerbMail:
		c.Path, c.Params, may = sent(behind, from)
		may = may && !isAlone(c.Path)
	case api.VerbRcpt:
		c.Path, c.Params, may = sent(behind, to)
		may = may && !c.Path.Null
	case api.VerbNoop, api.VerbHelp:
		if !blank {
			return c, true
		}
		fallthrough
	case api.VerbVrfy, api.VerbExpn:
		c.Arg, may = strings.Clone(behind), some(behind, isShown)
	case api.VerbData, api.VerbRset, api.VerbQuit:
		may = !blank
	}
	return c, may
}

// isBracket tells whether a text is a literal's words in [ and ].
func isBracket(s string) bool {
	inside, opened := strings.CutPrefix(s, "[")
	inside, closed := strings.CutSuffix(inside, "]")
	return opened && closed && path.Literal(inside)
}

// isAlone tells whether a path is that of postmaster without a domain.
func isAlone(p api.Path) bool { return !p.Null && p.Box.Domain == "" }

// sent reads what stands ahead of a path, the path, and parameters.
func sent(s, ahead string) (api.Path, []api.Param, bool) {
	if len(s) < len(ahead) || each(s[:len(ahead)], great) != ahead {
		return api.Path{}, nil, false
	}
	s = s[len(ahead):]
	p, taken, err := path.Parse(s)
	if err != api.OK {
		return api.Path{}, nil, false
	}
	l, read := params(s[taken:])
	return p, l, read
}

// params reads parameters, or none.
func params(s string) ([]api.Param, bool) {
	pieces := strings.Split(s, " ")
	if pieces[0] != "" { // there is no blank ahead of the first one
		return nil, false
	}
	var l []api.Param
	for _, piece := range pieces[1:] {
		key, value, has := strings.Cut(piece, "=")
		if !isKey(key) || has && !some(value, isOfValue) {
			return nil, false
		}
		l = append(l, api.Param{Key: each(key, great), Value: strings.Clone(value), Has: has})
	}
	return l, true
}

// isKey tells whether a text is a key.
func isKey(s string) bool { return some(s, isOfKey) && s[0] != '-' }
