package octet

import (
	"strings"

	"turnpike/api"
)

// List is the elements of a list.
func List(s string) ([]string, api.Errno) {
	var l []string
	from, at := 0, 0
	for at < len(s) {
		switch s[at] {
		case ',':
			l = appendElement(l, s[from:at])
			at++
			from = at
		case '"':
			n := quotedLength(s[at:])
			if n == 0 {
				return nil, api.ErrList
			}
			at += n
		default:
			at++
		}
	}
	return appendElement(l, s[from:]), api.OK
}

// Tokens is the elements of a list of tokens.
func Tokens(s string) ([]string, api.Errno) {
	l, err := List(s)
	if err != api.OK {
		return nil, err
	}
	for _, element := range l {
		if !IsToken(element) {
			return nil, api.ErrToken
		}
	}
	return l, api.OK
}

// Join is a list as text.
func Join(l []string) string { return strings.Join(l, ", ") }

func appendElement(l []string, s string) []string {
	element := Trim(s)
	if element == "" {
		return l
	}
	return append(l, element)
}
