package span

import (
	"strings"

	"turnpike/api"
	"turnpike/octet"
)

// reader goes through a body in parts; where something fails, at is the place of that.
type reader struct {
	text string
	at   int
}

// Pieces is the parts of a body in parts.
func Pieces(boundary, s string) ([]api.Piece, int, api.Errno) {
	if !isBoundary(boundary) {
		return nil, 0, api.ErrMark
	}
	r := reader{text: s}
	l, err := r.pieces(opening(boundary), closing(boundary))
	if err != api.OK {
		return nil, r.at, err
	}
	return l, 0, api.OK
}

// pieces reads all from the front to the end.
func (r *reader) pieces(open, end string) ([]api.Piece, api.Errno) {
	var l []api.Piece
	mark, err := r.take(api.ErrMark, open)
	for err == api.OK && mark == open {
		var p api.Piece
		if p, err = r.piece(); err != api.OK {
			return nil, err
		}
		l = append(l, p)
		mark, err = r.take(api.ErrMark, open, end)
	}
	if err == api.OK && r.at < len(r.text) {
		err = api.ErrMark
	}
	return l, err
}

// piece reads a part from behind its mark on.
func (r *reader) piece() (api.Piece, api.Errno) {
	var p api.Piece
	var err api.Errno
	if p.Media, err = r.line(mediaHead); err != api.OK {
		return p, err
	}
	begin := r.at
	told, err := r.line(rangeHead)
	if err != api.OK {
		return p, err
	}
	if p.Span, p.Size, _ = Told(told); p.Span == (api.Span{}) {
		r.at = begin
		return p, api.ErrPiece
	}
	if _, err = r.take(api.ErrPiece, lineEnd); err != api.OK {
		return p, err
	}
	n := p.Span.To - p.Span.From
	if n > len(r.text)-r.at {
		r.at = len(r.text)
		return p, api.ErrShort
	}
	p.Body = r.text[r.at : r.at+n]
	r.at += n
	return p, api.OK
}

// take reads the one of some texts that stands next, and fails otherwise if none of them can come to stand there.
func (r *reader) take(fault api.Errno, texts ...string) (string, api.Errno) {
	rest := r.text[r.at:]
	for _, text := range texts {
		if strings.HasPrefix(rest, text) {
			r.at += len(text)
			return text, api.OK
		}
		if strings.HasPrefix(text, rest) {
			fault = api.ErrShort
		}
	}
	if fault == api.ErrShort {
		r.at = len(r.text)
	}
	return "", fault
}

// line reads a line with a head, and answers what stands behind that.
func (r *reader) line(head string) (string, api.Errno) {
	rest := r.text[r.at:]
	line, _, ended := strings.Cut(rest, lineEnd)
	if !ended {
		// The line end may have begun.
		line = strings.TrimSuffix(line, lineEnd[:1])
	}
	value, headed := strings.CutPrefix(line, head)
	switch fit := headed && octet.IsField(value); {
	case fit && ended:
		r.at += len(line) + len(lineEnd)
		return value, api.OK
	case fit || strings.HasPrefix(head, rest):
		r.at = len(r.text)
		return "", api.ErrShort
	}
	return "", api.ErrPiece
}
