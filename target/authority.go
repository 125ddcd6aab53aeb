package target

import (
	"strings"

	"turnpike/api"
	"turnpike/octet"
)

const (
	noPort     = -1
	maxPort    = 65535
	portDigits = 5
)

const (
	groupCount  = 8 // of an address
	groupDigits = 4
	maxGroup    = 0xffff
	partCount   = 4 // of its last two groups, by decimal numbers
	maxPart     = 255
)

// Authority is the host and the port of an authority.
func Authority(s string) (string, int, api.Errno) {
	length := hostLength(s)
	port, good := readPort(s[length:])
	if !good || !isHost(s[:length]) {
		return "", 0, api.ErrAuthority
	}
	return octet.Lower(s[:length]), port, api.OK
}

// hostLength is how many bytes at the front are to be the host: up to a : that is not in brackets.
func hostLength(s string) int {
	if strings.HasPrefix(s, "[") {
		return strings.IndexByte(s, ']') + 1
	}
	if end := strings.IndexByte(s, ':'); end >= 0 {
		return end
	}
	return len(s)
}

// readPort is the port that stands behind a host.
func readPort(s string) (int, bool) {
	if s == "" || s == ":" {
		return noPort, true
	}
	digits, good := strings.CutPrefix(s, ":")
	if !good || len(digits) > portDigits {
		return 0, false
	}
	port, err := octet.Decimal(digits, maxPort)
	return port, err == api.OK
}

func isHost(s string) bool {
	if strings.HasPrefix(s, "[") && strings.HasSuffix(s, "]") {
		return isAddress(s[1 : len(s)-1])
	}
	return s != "" && isOf(s, nameSigns)
}

func isAddress(s string) bool {
	front, back, shortened := strings.Cut(s, "::")
	if !shortened {
		count, good := countGroups(s, true)
		return good && count == groupCount
	}
	ahead, good := countGroups(front, false)
	behind, alsoGood := countGroups(back, true)
	return good && alsoGood && ahead+behind < groupCount // :: stands for a group at least
}

// countGroups is how many groups a text has; only at an address's end the last two may be decimal numbers.
func countGroups(s string, atEnd bool) (int, bool) {
	if s == "" {
		return 0, true
	}
	count := 0
	groups := strings.Split(s, ":")
	for i, group := range groups {
		switch {
		case isGroup(group):
			count++
		case atEnd && i == len(groups)-1 && isDecimalEnd(group):
			count += 2
		default:
			return 0, false
		}
	}
	return count, true
}

func isGroup(s string) bool {
	_, err := octet.Hex(s, maxGroup)
	return err == api.OK && len(s) <= groupDigits
}

// isDecimalEnd tells whether a text is two groups by decimal numbers.
func isDecimalEnd(s string) bool {
	parts := strings.Split(s, ".")
	for _, part := range parts {
		n, err := octet.Decimal(part, maxPart)
		if err != api.OK || part != octet.Digits(n) {
			return false
		}
	}
	return len(parts) == partCount
}
