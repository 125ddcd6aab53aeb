package span

import (
	"strings"

	"turnpike/api"
	"turnpike/octet"
)

// Tell is a content range.
func Tell(x api.Span, size int) (string, api.Errno) {
	if !isSpan(x, size) {
		return "", api.ErrSpan
	}
	return unit + " " + extent(x) + "/" + octet.Digits(size), api.OK
}

// TellNone is a content range of nothing.
func TellNone(size int) (string, api.Errno) {
	if size < 0 {
		return "", api.ErrArg
	}
	return unit + " */" + octet.Digits(size), api.OK
}

// Told is what a content range says.
func Told(s string) (api.Span, int, api.Errno) {
	name, rest, _ := strings.Cut(s, " ")
	part, whole, _ := strings.Cut(rest, "/")
	if name != unit {
		return api.Span{}, 0, api.ErrUnit
	}
	x, isPart := readExtent(part)
	size, isSize := plain(whole)
	switch {
	case isPart && isSize && isSpan(x, size):
		return x, size, api.OK
	case isPart && whole == "*":
		return x, -1, api.OK
	case part == "*" && isSize:
		return api.Span{}, size, api.OK
	}
	return api.Span{}, 0, api.ErrUnit
}

// readExtent is the span from a first byte to a last one; whether s tells one.
func readExtent(s string) (api.Span, bool) {
	first, last, _ := strings.Cut(s, "-")
	from, okFrom := plain(first)
	to, okTo := plain(last)
	return api.Span{From: from, To: to + 1}, okFrom && okTo && from <= to
}

// plain is the number that digits say; whether they are the ones by which it is printed, and it is not too great.
func plain(s string) (int, bool) {
	n, err := octet.Decimal(s, most)
	return n, err == api.OK && octet.Digits(n) == s
}
