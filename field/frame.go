package field

import (
	"slices"
	"strings"

	"turnpike/api"
	"turnpike/octet"
)

const (
	nameLength     = "Content-Length"
	nameCodings    = "Transfer-Encoding"
	nameConnection = "Connection"
	nameHost       = "Host"

	chunked   = "chunked"
	closes    = "close"
	keepAlive = "keep-alive"

	notInHosts = "\"#/<>?@\\"
)

// Length is the length of a body that the fields tell.
func Length(l []api.Field) (int, bool, api.Errno) {
	if _, found := Find(l, nameLength); !found {
		return 0, false, api.OK
	}
	elements, err := List(l, nameLength)
	if err != api.OK || len(elements) == 0 {
		return 0, false, api.ErrLengths
	}
	length := 0
	for i, element := range elements {
		n, err := octet.Decimal(element, api.MaxLength)
		if err != api.OK || i > 0 && n != length {
			return 0, false, api.ErrLengths
		}
		length = n
	}
	return length, true, api.OK
}

// Codings is the transfer codings that the fields tell.
func Codings(l []api.Field) ([]string, bool, api.Errno) {
	if _, found := Find(l, nameCodings); !found {
		return nil, false, api.OK
	}
	codings, err := Tokens(l, nameCodings)
	if err != api.OK {
		return nil, false, api.ErrCodings
	}
	return codings, true, api.OK
}

// Framing is how a message's body is framed.
func Framing(l []api.Field, old bool) (api.Framing, api.Errno) {
	codings, coded, codingsErr := Codings(l)
	length, sized, lengthErr := Length(l)
	switch {
	case codingsErr != api.OK:
		fallthrough
	case coded && old:
		fallthrough
	case coded && !slices.Equal(codings, []string{chunked}):
		return api.Framing{}, api.ErrCodings
	case lengthErr != api.OK:
		return api.Framing{}, api.ErrLengths
	case coded && sized:
		return api.Framing{}, api.ErrBoth
	case coded:
		return api.Framing{Kind: api.FrameChunked}, api.OK
	case sized:
		return api.Framing{Kind: api.FrameLength, Length: length}, api.OK
	}
	return api.Framing{Kind: api.FrameNone}, api.OK
}

// Persist tells whether the connection goes on behind a message.
func Persist(l []api.Field, old bool) bool {
	tokens, err := Tokens(l, nameConnection)
	if err != api.OK || slices.Contains(tokens, closes) {
		return false
	}
	return !old || slices.Contains(tokens, keepAlive)
}

// Host is the host that is meant.
func Host(l []api.Field, old bool) (string, bool, api.Errno) {
	hosts := All(l, nameHost)
	if len(hosts) == 0 && old {
		return "", false, api.OK
	}
	if len(hosts) != 1 || !maybeHost(hosts[0]) {
		return "", false, api.ErrHosts
	}
	return hosts[0], true, api.OK
}

// Onward is the fields that go on beyond the next hop.
func Onward(l []api.Field) []api.Field {
	ending := hopNames()
	// Tokens that are refused are none.
	tokens, _ := Tokens(l, nameConnection)
	for _, token := range tokens {
		ending[token] = struct{}{}
	}
	return kept(l, func(f api.Field) bool {
		_, ends := ending[octet.Lower(f.Name)]
		return !ends
	})
}

// hopNames is the names that end at a hop whatever Connection says, with small letters.
func hopNames() map[string]struct{} {
	return map[string]struct{}{
		"connection":        {},
		"keep-alive":        {},
		"proxy-connection":  {},
		"te":                {},
		"trailer":           {},
		"transfer-encoding": {},
		"upgrade":           {},
	}
}

// maybeHost tells whether a text has only bytes that may stand in a Host field.
func maybeHost(s string) bool {
	for _, c := range []byte(s) {
		if c <= ' ' || c > '~' || strings.IndexByte(notInHosts, c) >= 0 {
			return false
		}
	}
	return true
}
