package parse

import (
	"turnpike/api"
	"turnpike/chunk"
)

// beginBody waits for the body, if there is one.
func (p *Parser) beginBody(framing api.Framing) {
	p.state = stateBody
	switch {
	case framing.Kind == api.FrameChunked:
		// Limits that are right are no wrong arguments of a decoder.
		p.chunks, _ = chunk.New(p.limits.Body, p.limits.Head, p.limits.Fields)
		p.body = p.inChunks
	case framing.Length > 0:
		p.left = framing.Length
		p.body = p.inLength
	default:
		p.finish("", nil)
	}
}

// inLength takes bytes of a body with a length. Room is made for no more than these: a length alone costs nothing.
func (p *Parser) inLength(s string) {
	n := min(len(s), p.left)
	p.used += n
	p.left -= n
	p.text = append(p.text, s[:n]...)
	if p.left == 0 {
		p.finish(string(p.text), nil)
	}
}

// inChunks takes bytes of a body in chunks.
func (p *Parser) inChunks(s string) {
	n, err := p.chunks.Feed(s)
	p.used += n
	if err != api.OK {
		p.refuse(chunkStatus(err), err)
	}
	if p.chunks.Done() {
		p.finish(p.chunks.Body(), p.chunks.Trailers())
	}
}

func chunkStatus(err api.Errno) int {
	switch err {
	case api.ErrMuch:
		return tooLarge
	case api.ErrTrailers:
		return fieldsTooLarge
	}
	return badRequest
}

// finish takes nothing more: all of the request is there.
func (p *Parser) finish(body string, trailers []api.Field) {
	p.request.Body, p.request.Trailers = body, trailers
	p.state = stateDone
	p.body, p.text, p.chunks = nil, nil, nil
}
