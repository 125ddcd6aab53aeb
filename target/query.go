package target

import (
	"strings"

	"turnpike/api"
)

// Query is the pairs of a query.
func Query(s string) ([]api.Param, int, api.Errno) {
	if at, err := check(s, querySigns, api.ErrQuery); err != api.OK {
		return nil, at, err
	}
	var l []api.Param
	for piece := range pieces(s, "&") {
		if piece != "" {
			l = append(l, readPair(piece))
		}
	}
	return l, 0, api.OK
}

// PrintQuery is pairs as a query.
func PrintQuery(l []api.Param) (string, api.Errno) {
	var b strings.Builder
	for i, p := range l {
		if !p.Has && (p.Value != "" || p.Name == "") {
			return "", api.ErrQuery
		}
		if i > 0 {
			b.WriteByte('&')
		}
		b.WriteString(Encode(p.Name))
		if p.Has {
			b.WriteByte('=')
			b.WriteString(Encode(p.Value))
		}
	}
	return b.String(), api.OK
}

func readPair(s string) api.Param {
	name, value, has := strings.Cut(s, "=")
	return api.Param{Name: decodeSpaces(name), Value: decodeSpaces(value), Has: has}
}

// decodeSpaces decodes what is known to have whole triples; a + that comes out of one is no space.
func decodeSpaces(s string) string {
	decoded, _, _ := Decode(strings.ReplaceAll(s, "+", " "))
	return decoded
}
