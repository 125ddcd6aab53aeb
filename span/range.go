// Package span is layer 9: see shared/doc/09-span.md.
package span

import (
	"strings"

	"turnpike/api"
	"turnpike/octet"
)

const (
	unit = "bytes"
	most = 1 << 62 // no number counts for more, so that one more than it is still an int
)

// Parse reads a range header, for a body of a size.
func Parse(s string, size int) ([]api.Span, api.Errno) {
	if size < 0 {
		return nil, api.ErrArg
	}
	elements, ok := rangeElements(s)
	if !ok {
		return nil, api.ErrUnit
	}
	var l []api.Span
	for _, element := range elements {
		x, ok := asked(element, size)
		if !ok {
			return nil, api.ErrUnit
		}
		if x = within(x, size); !isEmpty(x) {
			l = append(l, x)
		}
	}
	if len(l) == 0 {
		return nil, api.ErrSpan
	}
	return l, api.OK
}

// Print is a range header of spans.
func Print(l []api.Span, size int) (string, api.Errno) {
	switch {
	case size < 0:
		return "", api.ErrArg
	case len(l) == 0 || !areSpans(l, size):
		return "", api.ErrSpan
	}
	texts := make([]string, len(l))
	for i, x := range l {
		texts[i] = extent(x)
	}
	return unit + "=" + strings.Join(texts, ","), api.OK
}

// rangeElements is the elements behind the unit; whether there are any.
func rangeElements(s string) ([]string, bool) {
	name, list, _ := strings.Cut(s, "=")
	if !octet.Same(name, unit) {
		return nil, false
	}
	l, err := octet.List(list)
	return l, err == api.OK && len(l) > 0
}

// asked is what an element asks for, as far as it may reach beyond the body; whether it is an element.
func asked(element string, size int) (api.Span, bool) {
	first, last, ok := strings.Cut(element, "-")
	switch {
	case !ok:
		return api.Span{}, false
	case first == "":
		many, ok := count(last)
		return api.Span{From: size - many, To: size}, ok
	case last == "":
		from, ok := count(first)
		return api.Span{From: from, To: size}, ok
	}
	from, okFrom := count(first)
	to, okTo := count(last)
	return api.Span{From: from, To: to + 1}, okFrom && okTo && from <= to
}

// count is the number that digits say, as far as it counts; whether they are digits.
func count(s string) (int, bool) {
	n, err := octet.Decimal(s, most)
	if err == api.ErrBig {
		return most, true
	}
	return n, err == api.OK
}

// extent is a span by its first and its last byte.
func extent(x api.Span) string { return octet.Digits(x.From) + "-" + octet.Digits(x.To-1) }
