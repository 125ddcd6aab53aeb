package octet

import (
	"strings"

	"turnpike/api"
)

// Quote is the quoted text that says a text.
func Quote(s string) (string, api.Errno) {
	if !IsField(s) {
		return "", api.ErrQuoted
	}
	var b strings.Builder
	b.WriteByte('"')
	for _, c := range []byte(s) {
		if c == '"' || c == '\\' {
			b.WriteByte('\\')
		}
		b.WriteByte(c)
	}
	b.WriteByte('"')
	return b.String(), api.OK
}

// Unquote is what the quoted text at the front says, and how many bytes it has.
func Unquote(s string) (string, int, api.Errno) {
	n := quotedLength(s)
	if n == 0 {
		return "", 0, api.ErrQuoted
	}
	return partsSay(s[1 : n-1]), n, api.OK
}

// quotedLength is how many bytes the quoted text at the front has; 0: there is none.
func quotedLength(s string) int {
	if !strings.HasPrefix(s, `"`) {
		return 0
	}
	escaped := false
parts:
	for i, c := range []byte(s[1:]) {
		switch {
		case !isFieldByte(c):
			break parts
		case escaped:
			escaped = false
		case c == '\\':
			escaped = true
		case c == '"':
			return i + len(`""`)
		}
	}
	return 0
}

// partsSay is what the parts of a quoted text stand for.
func partsSay(parts string) string {
	var b strings.Builder
	escaped := false
	for _, c := range []byte(parts) {
		escaped = c == '\\' && !escaped
		if !escaped {
			b.WriteByte(c)
		}
	}
	return b.String()
}
