package handle

import (
	"slices"
	"strings"

	"turnpike/api"
	"turnpike/octet"
	"turnpike/shelf"
)

// Refer is what a reference says with the values of parameters.
func Refer(text string, params []api.Param) (string, api.Errno) {
	if text == "" || !octet.IsField(text) || octet.Trim(text) != text {
		return "", api.ErrHandler
	}
	var b strings.Builder
	from, named := 0, false
	for i, c := range text {
		piece := text[from:i]
		switch {
		case c == '{' && !named:
			b.WriteString(piece)
		case c == '}' && named && isName(piece):
			b.WriteString(valueOf(params, piece))
		case c == '}': // a { within a name is refused here too: no name has one
			return "", api.ErrHandler
		default:
			continue
		}
		from, named = i+1, !named
	}
	if named {
		return "", api.ErrHandler
	}
	b.WriteString(text[from:])
	return b.String(), api.OK
}

// isName is whether a text may be a parameter's name.
func isName(s string) bool {
	for i, c := range s {
		if !isLetter(c) && (i == 0 || c != '_' && !isDigit(c)) {
			return false
		}
	}
	return s != ""
}

func isLetter(c rune) bool { return 'a' <= c && c <= 'z' || 'A' <= c && c <= 'Z' }

func isDigit(c rune) bool { return '0' <= c && c <= '9' }

// valueOf is the raw value of the first parameter of a name; nothing, if there is none.
func valueOf(params []api.Param, name string) string {
	i := slices.IndexFunc(params, func(p api.Param) bool { return p.Name == name })
	if i < 0 {
		return ""
	}
	return params[i].Value
}

func answerRedirect(h api.Handler, a api.Asked, s *shelf.Shelf) api.Response {
	to, _ := Refer(h.Text, a.Params)
	return Plain(h.Status, api.Field{Name: "Location", Value: to})
}
