package sheet

import (
	"iter"
	"strings"

	"turnpike/api"
	"turnpike/field"
	"turnpike/octet"
)

// head is what the fields of a part have said so far, and which of them were there.
type head struct {
	part            api.Part
	disposed, typed bool
}

// fields reads a part's fields and the empty line behind them.
func (r *reader) fields() (api.Part, error) {
	var h head
	for at, line := range lines(r.text, r.at) {
		if err := h.take(line); err != api.OK {
			return api.Part{}, fault{at, err}
		}
		if line == "" {
			r.at = at + len(lineEnd)
			return h.part, nil
		}
	}
	return api.Part{}, r.shut()
}

// lines goes through the lines of a text from a place on: where each begins, and what it says. What has no end is no line.
func lines(text string, from int) iter.Seq2[int, string] {
	return func(yield func(int, string) bool) {
		at := from
		line, rest, ended := strings.Cut(text[at:], lineEnd)
		for ended && yield(at, line) {
			at += len(line) + len(lineEnd)
			line, rest, ended = strings.Cut(rest, lineEnd)
		}
	}
}

// take reads a line of fields, or the empty one.
func (h *head) take(line string) api.Errno {
	if line == "" {
		return h.end()
	}
	f, _, err := field.ParseLine(line)
	switch {
	case err != api.OK:
		return err
	case octet.Same(f.Name, nameDisposition):
		return h.dispose(f.Value)
	case octet.Same(f.Name, nameMedia):
		return h.media(f.Value)
	}
	return api.OK
}

func (h *head) end() api.Errno {
	if !h.disposed {
		return api.ErrPart
	}
	return api.OK
}

func (h *head) dispose(value string) api.Errno {
	word, l, err := Disposition(value)
	if h.disposed || err != api.OK || word != formData {
		return api.ErrPart
	}
	named := false
	for _, p := range l {
		switch p.Name {
		case paramName:
			h.part.Name, named = p.Value, true
		case paramFile:
			h.part.File, h.part.HasFile = p.Value, true
		}
	}
	if !named {
		return api.ErrPart
	}
	h.disposed = true
	return api.OK
}

// media keeps a media type. An empty one is told like none, so that there was one is kept for itself.
func (h *head) media(value string) api.Errno {
	if h.typed {
		return api.ErrPart
	}
	h.part.Media, h.typed = value, true
	return api.OK
}
