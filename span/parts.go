package span

import (
	"strings"

	"turnpike/api"
	"turnpike/octet"
)

const (
	lineEnd     = "\r\n"
	dashes      = "--"
	ownBoundary = "part" // ahead of a number
	mediaHead   = "Content-Type: "
	rangeHead   = "Content-Range: "
	maxBoundary = 70
)

// Boundary is a boundary that does not stand in a body.
func Boundary(body string) string {
	taken := takenNumbers(body)
	n := 0
	for {
		if _, ok := taken[n]; !ok {
			return ownBoundary + octet.Digits(n)
		}
		n++
	}
}

// takenNumbers is the numbers whose boundaries stand in a body. Those above its length are let be: it has no room for all below them.
func takenNumbers(body string) map[int]struct{} {
	taken := map[int]struct{}{}
	rest := body
	for {
		var found bool
		if _, rest, found = strings.Cut(rest, dashes+ownBoundary); !found {
			return taken
		}
		// With a number each of its beginnings stands there, too; behind a 0 none goes on.
		n := 0
		for at := 0; at < len(rest) && isDigit(rest[at]); at++ {
			if n = n*10 + int(rest[at]-'0'); n > len(body) {
				break
			}
			taken[n] = struct{}{}
			if n == 0 {
				break
			}
		}
	}
}

// Parts is a body in parts.
func Parts(boundary, media, body string, l []api.Span) (string, api.Errno) {
	switch {
	case !isBoundary(boundary) || strings.Contains(body, dashes+boundary):
		return "", api.ErrMark
	case !octet.IsField(media):
		return "", api.ErrArg
	case len(l) == 0 || !areSpans(l, len(body)):
		return "", api.ErrSpan
	}
	var b strings.Builder
	for _, x := range l {
		b.WriteString(opening(boundary))
		b.WriteString(mediaHead + media + lineEnd)
		told, _ := Tell(x, len(body))
		b.WriteString(rangeHead + told + lineEnd)
		b.WriteString(lineEnd)
		b.WriteString(body[x.From:x.To])
	}
	b.WriteString(closing(boundary))
	return b.String(), api.OK
}

// opening is what stands ahead of a part.
func opening(boundary string) string { return lineEnd + dashes + boundary + lineEnd }

// closing is what stands behind the last part.
func closing(boundary string) string { return lineEnd + dashes + boundary + dashes + lineEnd }

// isBoundary tells whether s is a boundary.
func isBoundary(s string) bool {
	for _, c := range []byte(s) {
		if !isMark(c) {
			return false
		}
	}
	return s != "" && len(s) <= maxBoundary
}

// isMark tells whether a byte may stand in a boundary.
func isMark(c byte) bool {
	return isDigit(c) || 'A' <= c && c <= 'Z' || 'a' <= c && c <= 'z' || strings.IndexByte("'()+_,-./:=?", c) >= 0
}

func isDigit(c byte) bool { return '0' <= c && c <= '9' }
