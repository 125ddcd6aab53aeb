package app

import (
	"slices"

	"turnpike/api"
	"turnpike/chain"
	"turnpike/field"
	"turnpike/octet"
	"turnpike/span"
	"turnpike/stamp"
	"turnpike/tag"
)

const (
	methodGet  = "GET"
	methodHead = "HEAD"

	contentType  = "Content-Type"
	contentRange = "Content-Range"
	acceptRanges = "Accept-Ranges"
	entityTag    = "ETag"
	lastModified = "Last-Modified"

	unit       = "bytes"
	anyMedia   = "application/octet-stream" // of a response that tells none
	partsMedia = "multipart/byteranges; boundary="
)

// conditioned is what becomes of a response by the preconditions and the ranges of its request.
func conditioned(x api.Response, r api.Request, now int) api.Response {
	if x.Status != fine || r.Method != methodGet && r.Method != methodHead {
		return x
	}
	state := stateOf(x, now)
	switch tag.Decide(r.Method, r.Fields, state, now) {
	case api.DecideSame:
		return unchanged(x)
	case api.DecideFailed:
		return chain.Plain(preconditionFailed, append(allOf(x, entityTag), allOf(x, lastModified)...))
	}
	if r.Method == methodGet && tag.Ranged(r.Fields, state, now) {
		return ranged(x, r)
	}
	return x
}

// stateOf is the state of the resource that a response tells of.
func stateOf(x api.Response, now int) api.State {
	s := api.State{There: true}
	if text, has := only(x.Fields, entityTag); has {
		t, _, err := tag.Parse(text)
		s.Tag, s.Tagged = t, err == api.OK
	}
	if text, has := only(x.Fields, lastModified); has {
		m, _, err, _ := stamp.Parse(text, now)
		s.Time, s.Timed = m, err == api.OK
	}
	return s
}

// only is the value of the one field of a name, and whether there is just one.
func only(l []api.Field, name string) (string, bool) {
	values := field.All(l, name)
	if len(values) != 1 {
		return "", false
	}
	return values[0], true
}

// allOf is the fields of a name, as they stand in a response.
func allOf(x api.Response, name string) []api.Field {
	return slices.DeleteFunc(slices.Clone(x.Fields), func(f api.Field) bool { return !octet.Same(f.Name, name) })
}

// unchanged is what is said to a client that has a response already.
func unchanged(x api.Response) api.Response {
	l := x.Fields
	for _, name := range []string{contentType, "Content-Length", "Content-Encoding", "Content-Language", acceptRanges} {
		l = field.Remove(l, name)
	}
	return api.Response{Status: notModified, Fields: l}
}

// ranged is a response, or what is asked for of its body.
func ranged(x api.Response, r api.Request) api.Response {
	text, has := only(r.Fields, "Range")
	if by, _ := field.Find(x.Fields, acceptRanges); !has || by != unit {
		return x
	}
	size := len(x.Body)
	l, err := span.Parse(text, size)
	switch err {
	case api.ErrUnit:
		return x
	case api.ErrSpan:
		none, _ := span.TellNone(size)
		return chain.Plain(rangeNotSatisfiable, []api.Field{{Name: contentRange, Value: none}})
	}
	l = span.Merge(l)
	switch {
	case len(l) > api.MaxSpans || span.Total(l) >= size:
		return x
	case len(l) == 1:
		return inOne(x, l[0])
	}
	return inParts(x, l)
}

// inOne is a response of which one span is asked for. Spans that were read for a body are spans of it, here and below.
func inOne(x api.Response, part api.Span) api.Response {
	where, _ := span.Tell(part, len(x.Body))
	body, _ := span.Cut(x.Body, part)
	return api.Response{Status: partialContent, Fields: append(x.Fields, api.Field{Name: contentRange, Value: where}), Body: body}
}

// inParts is a response of which several spans are asked for.
func inParts(x api.Response, l []api.Span) api.Response {
	boundary := span.Boundary(x.Body)
	media, has := field.Find(x.Fields, contentType)
	if !has {
		media = anyMedia
	}
	body, _ := span.Parts(boundary, media, x.Body, l)
	fields := append(field.Remove(x.Fields, contentType), api.Field{Name: contentType, Value: partsMedia + boundary})
	return api.Response{Status: partialContent, Fields: fields, Body: body}
}
