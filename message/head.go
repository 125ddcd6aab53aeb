package message

import (
	"bytes"

	"turnpike/api"
	"turnpike/field"
	"turnpike/octet"
)

const (
	statusForm = "HTTP/1.0 000 " // ahead of the reason
	minorAt    = 7
	statusAt   = 9
	reasonAt   = len(statusForm)
)

// ParseHead reads the head that a text begins with.
func ParseHead(s string) (api.Reply, int, api.Errno) {
	from := stream{piece: s}
	err := from.readHead()
	switch {
	case err != api.OK:
		return api.Reply{}, from.wrongAt, err
	case !from.headed:
		return api.Reply{}, len(s), api.ErrPartial
	}
	return from.reply, from.used, api.OK
}

// readHead reads what is there of the head.
func (s *stream) readHead() api.Errno {
	for !s.headed && s.piece != "" {
		c := s.readOff(1)[0]
		if err := s.takeHead(c, s.used-1); err != api.OK {
			return err
		}
	}
	return api.OK
}

// takeHead takes a byte of the head, which stands at a place.
func (s *stream) takeHead(c byte, at int) api.Errno {
	behindReturn := bytes.HasSuffix(s.line, []byte{'\r'})
	switch {
	case at == api.MaxReplyHead:
		return s.refuse(at, api.ErrLarge)
	case behindReturn != (c == '\n'):
		return s.refuse(at, api.ErrReply)
	case c == '\n':
		return s.endLine()
	case s.lineAt == 0 && !goesOn(at, c):
		return s.refuse(at, api.ErrReply)
	}
	s.line = append(s.line, c)
	return api.OK
}

// goesOn tells whether a status line goes on with a byte at a place.
func goesOn(at int, c byte) bool {
	switch {
	case at >= reasonAt:
		return c == '\r' || at < reasonAt+api.MaxReason && octet.IsField(string([]byte{c}))
	case at == minorAt:
		return c == '0' || c == '1'
	case at == statusAt:
		return '1' <= c && c <= '5'
	case statusForm[at] == '0':
		return '0' <= c && c <= '9'
	}
	return c == statusForm[at]
}

// endLine reads what the line says that has just ended.
func (s *stream) endLine() api.Errno {
	at, line := s.lineAt, string(s.line[:len(s.line)-1])
	s.lineAt, s.line = s.used, s.line[:0]
	switch {
	case at == 0:
		s.keepStatus(line)
		return api.OK
	case line == "":
		return s.endHead(at)
	}
	return s.keepField(line, at)
}

func (s *stream) keepStatus(line string) {
	// Bytes that a status line goes on with are digits here.
	s.reply.Response.Status, _ = octet.Decimal(line[statusAt:reasonAt-1], mostStatus)
	s.reply.Response.Reason = line[reasonAt:]
	s.reply.Minor = int(line[minorAt] - '0')
}

func (s *stream) keepField(line string, at int) api.Errno {
	r := &s.reply.Response
	if len(r.Fields) == api.MaxFields {
		return s.refuse(at, api.ErrMany)
	}
	f, place, err := field.ParseLine(line)
	if err != api.OK {
		return s.refuse(at+place, err)
	}
	r.Fields = append(r.Fields, f)
	return api.OK
}

// endHead reads what the fields say together: the empty line has just ended.
func (s *stream) endHead(at int) api.Errno {
	fields, old := s.reply.Response.Fields, s.reply.Minor == 0
	framing, err := field.Framing(fields, old)
	if err != api.OK {
		return s.refuse(at, err)
	}
	s.reply.Framing = framing
	s.reply.Persist = field.Persist(fields, old)
	s.line, s.headed = nil, true
	return api.OK
}
