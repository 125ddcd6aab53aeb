package message

import (
	"turnpike/api"
	"turnpike/chunk"
)

// stream is a row of bytes that comes in pieces, and what was read off it of the response at its front.
type stream struct {
	piece   string // what has come and was not read off
	ended   bool   // nothing comes behind that
	used    int    // bytes of the response that were read off
	wrongAt int    // where something is wrong with it
	line    []byte // what is there of the line of its head that has not ended
	lineAt  int    // where that line begins
	headed  bool   // all of its head was read off
	body    []byte // what is there of its body, if that is not in chunks
	chunks  *chunk.Decoder
	reply   api.Reply
}

// Parse reads the response that a text begins with.
func Parse(method, s string, most int, ended bool) (api.Reply, int, api.Errno) {
	if most < 0 {
		return api.Reply{}, 0, api.ErrArg
	}
	from := stream{piece: s, ended: ended}
	done, err := from.readResponse(method, most)
	switch {
	case err != api.OK:
		return api.Reply{}, from.wrongAt, err
	case !done:
		return api.Reply{}, len(s), api.ErrPartial
	}
	return from.reply, from.used, api.OK
}

// readResponse reads what is there of the response to a method, with a body of at most so many bytes: whether that is all of it.
func (s *stream) readResponse(method string, most int) (bool, api.Errno) {
	err := s.readHead()
	switch {
	case err != api.OK || !s.headed:
		return false, err
	case Bodyless(method, s.reply.Response.Status):
		return true, api.OK
	case s.reply.Framing.Kind == api.FrameChunked:
		return s.readChunks(most)
	case s.reply.Framing.Kind == api.FrameLength:
		return s.readLength(most)
	}
	return s.readToEnd(most)
}

// readChunks reads what is there of a body in chunks.
func (s *stream) readChunks(most int) (bool, api.Errno) {
	if s.chunks == nil {
		// Limits that are not below 0 are no wrong arguments of a decoder.
		s.chunks, _ = chunk.New(most, api.MaxReplyHead, api.MaxFields)
	}
	n, err := s.chunks.Feed(s.piece)
	s.readOff(n)
	if err != api.OK {
		return false, s.refuse(s.used-1, chunkErr(err))
	}
	if s.chunks.Done() {
		s.reply.Response.Body, s.reply.Trailers = s.chunks.Body(), s.chunks.Trailers()
	}
	return s.chunks.Done(), api.OK
}

func chunkErr(err api.Errno) api.Errno {
	if err == api.ErrMuch {
		return api.ErrLarge
	}
	return err
}

// readLength reads what is there of a body with a length.
func (s *stream) readLength(most int) (bool, api.Errno) {
	length := s.reply.Framing.Length
	if length > most {
		return false, s.refuse(s.used, api.ErrLarge)
	}
	s.readBody(length)
	if len(s.body) < length {
		return false, api.OK
	}
	s.reply.Response.Body = string(s.body)
	return true, api.OK
}

// readToEnd reads what is there of a body that goes on till the stream ends.
func (s *stream) readToEnd(most int) (bool, api.Errno) {
	s.readBody(most)
	switch {
	case s.piece != "":
		return false, s.refuse(s.used, api.ErrLarge)
	case !s.ended:
		return false, api.OK
	}
	s.reply.Response.Body = string(s.body)
	s.reply.Persist = false
	return true, api.OK
}

// readBody reads bytes off till the body has so many, or none is left. Room is made for no more than there are: a length alone costs nothing.
func (s *stream) readBody(most int) {
	n := min(most-len(s.body), len(s.piece))
	s.body = append(s.body, s.readOff(n)...)
}

// readOff reads so many bytes off.
func (s *stream) readOff(n int) string {
	read := s.piece[:n]
	s.piece = s.piece[n:]
	s.used += n
	return read
}

// refuse tells that something is wrong at a place.
func (s *stream) refuse(at int, err api.Errno) api.Errno {
	s.wrongAt = at
	return err
}

// holds tells whether there are bytes of a response that was not taken.
func (s *stream) holds() bool { return s.used > 0 || s.piece != "" }

// takeReply takes the response that is all there: the next one begins.
func (s *stream) takeReply() api.Reply {
	r := s.reply
	*s = stream{piece: s.piece, ended: s.ended}
	return r
}

// letGo forgets all that has come.
func (s *stream) letGo() { *s = stream{ended: s.ended} }
