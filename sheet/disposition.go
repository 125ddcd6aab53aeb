package sheet

import (
	"strings"

	"turnpike/api"
	"turnpike/octet"
)

// Disposition is the token and the parameters of a disposition.
func Disposition(s string) (string, []api.Param, api.Errno) {
	s = octet.Trim(s)
	word, _, _ := strings.Cut(s, ";")
	list := s[len(word):]
	// What octet.Params would take of blanks ahead of the first semicolon stands with the token here.
	word = octet.Trim(word)
	l, n, err := octet.Params(list)
	if err != api.OK || n < len(list) || !octet.IsToken(word) || !lowerNames(l) {
		return "", nil, api.ErrPart
	}
	return octet.Lower(word), l, api.OK
}

// lowerNames gives parameters names with small letters; false, if one has no value, or one name stands there twice.
func lowerNames(l []api.Param) bool {
	seen := map[string]struct{}{}
	for i, p := range l {
		if !p.Has {
			return false
		}
		l[i].Name = octet.Lower(p.Name)
		seen[l[i].Name] = struct{}{}
	}
	return len(seen) == len(l)
}
