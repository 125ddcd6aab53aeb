package chunk

import (
	"slices"
	"strings"

	"turnpike/api"
	"turnpike/field"
	"turnpike/octet"
)

// MayTrail tells whether a text is a field's name that may be a trailer's.
func MayTrail(name string) bool { return field.IsName(name) && !isHeadsAlone(octet.Lower(name)) }

// isHeadsAlone tells whether a name in small letters must stand ahead of the body, which it says how to read or to hand on.
func isHeadsAlone(small string) bool {
	switch small {
	case "connection", "content-encoding", "content-length", "content-range", "content-type", "expect",
		"host", "keep-alive", "te", "trailer", "transfer-encoding", "upgrade":
		return true
	}
	return false
}

// Encode is a body in chunks.
func Encode(body string, sizes []int, trailers []api.Field) (string, api.Errno) {
	if slices.ContainsFunc(sizes, func(n int) bool { return n < 1 }) {
		return "", api.ErrArg
	}
	section, err := printTrailers(trailers)
	if err != api.OK {
		return "", err
	}
	var b strings.Builder
	for _, n := range sizes {
		n = min(n, len(body))
		writeChunk(&b, body[:n])
		body = body[n:]
	}
	writeChunk(&b, body)
	writeSize(&b, 0)
	b.WriteString(section)
	return b.String(), api.OK
}

// writeChunk writes bytes as one chunk: none, if there are no bytes, since that would be the last one.
func writeChunk(b *strings.Builder, bytes string) {
	if bytes == "" {
		return
	}
	writeSize(b, len(bytes))
	b.WriteString(bytes)
	b.WriteString(lineEnd)
}

func writeSize(b *strings.Builder, n int) {
	line, _ := PrintSize(n, nil)
	b.WriteString(line)
	b.WriteString(lineEnd)
}

// printTrailers is a trailer section.
func printTrailers(l []api.Field) (string, api.Errno) {
	var b strings.Builder
	for _, f := range l {
		line, err := field.PrintLine(f)
		if err != api.OK || !MayTrail(f.Name) {
			return "", api.ErrTrailer
		}
		b.WriteString(line)
		b.WriteString(lineEnd)
	}
	b.WriteString(lineEnd)
	return b.String(), api.OK
}
