package message

import (
	"slices"

	"turnpike/api"
	"turnpike/chunk"
	"turnpike/field"
	"turnpike/octet"
)

const (
	nameLength     = "Content-Length"
	nameCodings    = "Transfer-Encoding"
	nameConnection = "Connection"

	chunked   = "chunked"
	closes    = "close"
	keepAlive = "keep-alive"

	ownVersion = "HTTP/1.1"
)

// Print is a response as bytes.
func Print(r api.Response, how api.Manner) (string, api.Errno) {
	head, err := Head(r, how)
	if err != api.OK {
		return "", err
	}
	if len(head) > api.MaxReplyHead {
		return "", api.ErrLarge
	}
	body := r.Body
	if how.Chunked {
		// A body that is not sent may be refused all the same: what HEAD is answered is what GET would be.
		body, err = chunk.Encode(r.Body, how.Sizes, how.Trailers)
	}
	switch {
	case err != api.OK:
		return "", err
	case Bodyless(how.Method, r.Status):
		return head, api.OK
	}
	return head + body, api.OK
}

// Head is the head of a response as bytes.
func Head(r api.Response, how api.Manner) (string, api.Errno) {
	switch {
	case !isStatus(r.Status):
		return "", api.ErrStatus
	case !isReason(r.Reason):
		return "", api.ErrReason
	case slices.ContainsFunc(r.Fields, func(f api.Field) bool { return framesItself(f.Name, r.Status) }):
		return "", api.ErrFramed
	case misframed(r, how):
		return "", api.ErrFramed
	}
	lines, err := field.Print(slices.Concat(r.Fields, laidBehind(r, how)))
	if err != api.OK {
		return "", err
	}
	reason := r.Reason
	if reason == "" {
		reason = Reason(r.Status)
	}
	return ownVersion + " " + octet.Digits(r.Status) + " " + reason + lineEnd + lines + lineEnd, api.OK
}

// framesItself tells whether a field says what is told by the manner. (An upgrade names the fields of its own in Connection.)
func framesItself(name string, status int) bool {
	return octet.Same(name, nameLength) || octet.Same(name, nameCodings) ||
		octet.Same(name, nameConnection) && status != switching
}

// misframed tells whether a manner may not be that of a response.
func misframed(r api.Response, how api.Manner) bool {
	never := neverBody(r.Status)
	return never && r.Body != "" ||
		how.Chunked && (how.Old || never) ||
		!how.Chunked && inPieces(how)
}

// inPieces tells whether a manner has what only a body in chunks has.
func inPieces(how api.Manner) bool { return len(how.Sizes) > 0 || len(how.Trailers) > 0 }

// laidBehind is the fields that a manner lays behind those of a response.
func laidBehind(r api.Response, how api.Manner) []api.Field {
	var l []api.Field
	switch {
	case how.Chunked:
		l = append(l, api.Field{Name: nameCodings, Value: chunked})
	case !neverBody(r.Status):
		l = append(l, api.Field{Name: nameLength, Value: octet.Digits(len(r.Body))})
	}
	switch {
	case isInformal(r.Status):
	case how.Close:
		l = append(l, api.Field{Name: nameConnection, Value: closes})
	case how.Old:
		l = append(l, api.Field{Name: nameConnection, Value: keepAlive})
	}
	return l
}
