package sheet

import (
	"strings"

	"turnpike/api"
)

// reader goes through a body in parts; mark is -- and the boundary.
type reader struct {
	text, mark string
	at         int
}

// Parse is the parts of a body, at most so many.
func Parse(boundary, s string, most int) ([]api.Part, int, api.Errno) {
	switch {
	case !IsBoundary(boundary):
		return nil, 0, api.ErrBoundary
	case most < 1:
		return nil, 0, api.ErrArg
	}
	r := reader{text: s, mark: dashes + boundary}
	l, err := r.parts(most)
	at, number := told(err)
	return l, at, number
}

// parts reads all from the front to the last mark.
func (r *reader) parts(most int) ([]api.Part, error) {
	var l []api.Part
	if err := r.passPreamble(); err != nil {
		return nil, err
	}
	for {
		begin := r.at
		last, err := r.takeMark(len(l) > 0)
		switch {
		case err != nil:
			return nil, err
		case last:
			return l, nil
		case len(l) == most:
			return nil, fault{begin, api.ErrParts}
		}
		p, err := r.part()
		if err != nil {
			return nil, err
		}
		l = append(l, p)
	}
}

// passPreamble goes to the first mark.
func (r *reader) passPreamble() error {
	if strings.HasPrefix(r.text, r.mark) {
		return nil
	}
	_, err := r.bytes()
	return err
}

// bytes reads what stands ahead of the next line end with a mark behind it, and goes to that mark.
func (r *reader) bytes() (string, error) {
	s, _, ended := strings.Cut(r.text[r.at:], lineEnd+r.mark)
	if !ended {
		return "", r.shut()
	}
	r.at += len(s) + len(lineEnd)
	return s, nil
}

// takeMark reads a mark and what ends its line: blanks, or, if it may be the last one, dashes; whether it is that.
func (r *reader) takeMark(mayBeLast bool) (bool, error) {
	behind := r.at + len(r.mark)
	rest := r.text[behind:]
	end := strings.TrimLeft(rest, blanks)
	switch {
	case strings.HasPrefix(end, lineEnd):
		r.at = len(r.text) - len(end) + len(lineEnd)
		return false, nil
	case mayBeLast && (rest == dashes || strings.HasPrefix(rest, dashes+lineEnd)):
		return true, nil
	case strings.HasPrefix(lineEnd, end), mayBeLast && strings.HasPrefix(dashes+lineEnd, rest):
		return false, r.shut()
	}
	return false, fault{behind, api.ErrBoundary}
}

// part reads a part from behind the line of its mark on, up to the next mark.
func (r *reader) part() (api.Part, error) {
	p, err := r.fields()
	if err != nil {
		return api.Part{}, err
	}
	// The line end ahead of this is the empty line's: none is left to end the bytes.
	if strings.HasPrefix(r.text[r.at:], r.mark) {
		return api.Part{}, fault{r.at, api.ErrPart}
	}
	p.Body, err = r.bytes()
	return p, err
}

// shut is what is wrong where the text ends too early.
func (r *reader) shut() error { return fault{len(r.text), api.ErrShut} }
