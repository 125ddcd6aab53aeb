package tag

import (
	"turnpike/api"
	"turnpike/base"
	"turnpike/octet"
)

// Strong compares two tags strongly.
func Strong(a, b api.Tag) bool { return !a.Weak && !b.Weak && Alike(a, b) }

// Alike compares two tags weakly.
func Alike(a, b api.Tag) bool { return a.Text == b.Text }

// Make is the tag of a body.
func Make(body string, weak bool) api.Tag {
	sum := base.Fnv(body)
	var b [8]byte
	for i := range b {
		b[len(b)-1-i] = byte(sum >> (8 * i))
	}
	return api.Tag{Weak: weak, Text: base.Hex(string(b[:])) + "-" + octet.Digits(len(body))}
}
