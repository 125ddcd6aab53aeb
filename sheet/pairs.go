package sheet

import (
	"strings"

	"turnpike/api"
	"turnpike/target"
)

// pairSigns is the bytes that are more to a body of pairs than themselves.
const pairSigns = "&=+%"

// Pairs is the pairs of a body.
func Pairs(s string) ([]api.Param, int, api.Errno) {
	if _, at, err := target.Decode(s); err != api.OK {
		return nil, at, err
	}
	return target.Query(asQuery(s))
}

// PrintPairs is pairs as a body.
func PrintPairs(l []api.Param) (string, api.Errno) {
	s, err := target.PrintQuery(l)
	if err != api.OK {
		return "", api.ErrPair
	}
	// Each % begins a triple in s, so none of these is found across two of them.
	s = strings.ReplaceAll(s, "%20", "+")
	s = strings.ReplaceAll(s, "%2A", "*")
	return strings.ReplaceAll(s, "~", "%7E"), api.OK
}

// asQuery is a query that says what a body of pairs does: a byte that may not stand in a query is a triple there.
func asQuery(s string) string {
	var b strings.Builder
	for _, c := range []byte(s) {
		if strings.IndexByte(pairSigns, c) >= 0 {
			b.WriteByte(c)
			continue
		}
		b.WriteString(target.Encode(string([]byte{c})))
	}
	return b.String()
}
