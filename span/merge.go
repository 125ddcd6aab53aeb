package span

import (
	"cmp"
	"slices"

	"turnpike/api"
)

// Merge is the least list of spans with the same bytes.
func Merge(l []api.Span) []api.Span {
	own := make([]api.Span, len(l))
	copy(own, l)
	own = slices.DeleteFunc(own, isEmpty)
	slices.SortFunc(own, func(a, b api.Span) int { return cmp.Compare(a.From, b.From) })
	n := 0
	for _, x := range own {
		if n > 0 && x.From <= own[n-1].To {
			own[n-1].To = max(own[n-1].To, x.To)
			continue
		}
		own[n] = x
		n++
	}
	return own[:n]
}

// Total is how many bytes spans have.
func Total(l []api.Span) int {
	n := 0
	for _, x := range l {
		if !isEmpty(x) {
			n += x.To - x.From
		}
	}
	return n
}

// Cut is the bytes of a span.
func Cut(body string, x api.Span) (string, api.Errno) {
	if !isSpan(x, len(body)) {
		return "", api.ErrSpan
	}
	return body[x.From:x.To], api.OK
}

// isEmpty tells whether there is no byte from From on, up to To.
func isEmpty(x api.Span) bool { return x.From >= x.To }

// within is what of a span lies in a body of a size.
func within(x api.Span, size int) api.Span {
	return api.Span{From: max(x.From, 0), To: min(x.To, size)}
}

// isSpan tells whether a span is one of a body of a size.
func isSpan(x api.Span, size int) bool { return !isEmpty(x) && x == within(x, size) }

// areSpans tells whether all are spans of a body of a size.
func areSpans(l []api.Span, size int) bool {
	return !slices.ContainsFunc(l, func(x api.Span) bool { return !isSpan(x, size) })
}
