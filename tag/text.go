// Package tag is layer 8: see shared/doc/08-tag.md.
package tag

import (
	"strings"

	"turnpike/api"
	"turnpike/octet"
)

// What a walk through a tag looks for next.
const (
	opening = iota // a quote, or a W ahead of all
	slash
	quote
	closing // a byte more, or the last quote
	ended
)

// Parse reads an entity tag.
func Parse(s string) (api.Tag, int, api.Errno) {
	t, n, ok := front(s)
	if !ok || n < len(s) {
		return api.Tag{}, n, api.ErrTag
	}
	return t, 0, api.OK
}

// Print is an entity tag as text.
func Print(t api.Tag) (string, api.Errno) {
	text := `"` + t.Text + `"`
	// What Parse takes between the quotes is what may stand there.
	if _, _, err := Parse(text); err != api.OK {
		return "", err
	}
	if t.Weak {
		text = "W/" + text
	}
	return text, api.OK
}

// List reads a condition of tags: the tags, whether it is *, the place of a fault.
func List(s string) ([]api.Tag, bool, int, api.Errno) {
	inner := octet.Trim(s)
	if inner == "*" {
		return nil, true, 0, api.OK
	}
	l, n, ok := tags(inner)
	switch {
	case ok:
		return l, false, 0, api.OK
	case n == len(inner):
		return nil, false, len(s), api.ErrTags
	}
	// What has no blank at its front stands nowhere ahead of its own place.
	return nil, false, strings.Index(s, inner) + n, api.ErrTags
}

// front reads the tag at the front of s; how many bytes go well; whether they are a tag.
func front(s string) (api.Tag, int, bool) {
	var t api.Tag
	next, begin, at := opening, 0, 0
walk:
	for ; at < len(s) && next != ended; at++ {
		c := s[at]
		switch {
		case next == opening && c == 'W':
			t.Weak, next = true, slash
		case next == slash && c == '/':
			next = quote
		case (next == opening || next == quote) && c == '"':
			next, begin = closing, at+1
		case next == closing && c == '"':
			t.Text, next = s[begin:at], ended
		case next == closing && isTagByte(c) && at-begin < api.MaxTag:
		default:
			break walk
		}
	}
	return t, at, next == ended
}

// isTagByte tells whether a byte may stand in a tag.
func isTagByte(c byte) bool { return c > ' ' && c != '"' && c != 127 }

// tags reads a list of tags; how many bytes of s go well; whether they are a list.
func tags(s string) ([]api.Tag, int, bool) {
	var l []api.Tag
	at, filled := 0, false
	for at < len(s) {
		switch c := s[at]; {
		case c == ' ' || c == '\t':
			at++
		case c == ',':
			at++
			filled = false
		case filled:
			return nil, at, false
		default:
			t, n, ok := front(s[at:])
			at += n
			if !ok {
				return nil, at, false
			}
			l, filled = append(l, t), true
		}
	}
	return l, at, len(l) > 0
}
