package chunk

import (
	"slices"
	"strings"

	"turnpike/api"
	"turnpike/field"
)

// Decoder reads a body in chunks, a piece at a time.
type Decoder struct {
	// next is the state: each byte is handed to it at the front of what is left of a piece, and it tells how many it took, one at least. None: nothing more is taken.
	next     func(d *Decoder, s string) int
	done     bool
	err      api.Errno
	most     int    // bytes that may still come in chunks
	room     int    // bytes that the trailer section may still have
	fields   int    // trailers that may still come
	left     int    // bytes of the chunk that are still to come
	total    int    // bytes that were taken
	line     []byte // what is there of the line that has not ended
	body     []byte
	trailers []api.Field
}

// Decode reads a body in chunks that stands at the front.
func Decode(s string, most, room, fields int) (string, []api.Field, int, api.Errno) {
	d, err := New(most, room, fields)
	if err != api.OK {
		return "", nil, 0, err
	}
	n, err := d.Feed(s)
	switch {
	case err != api.OK:
		return "", nil, n - 1, err
	case !d.done:
		return "", nil, n, api.ErrOpen
	}
	return d.Body(), d.Trailers(), n, api.OK
}

// New is a decoder that has taken nothing.
func New(most, room, fields int) (*Decoder, api.Errno) {
	if most < 0 || room < 0 || fields < 0 {
		return nil, api.ErrArg
	}
	return &Decoder{next: (*Decoder).inSize, most: most, room: room, fields: fields}, api.OK
}

// Feed takes bytes from the front, as many as belong to the body in chunks.
func (d *Decoder) Feed(s string) (int, api.Errno) {
	if d == nil || d.next == nil {
		return 0, api.ErrEnded
	}
	n := 0
	for n < len(s) && d.next != nil {
		n += d.next(d, s[n:])
	}
	d.total += n
	return n, d.err
}

// Done tells whether the body in chunks has ended.
func (d *Decoder) Done() bool { return d != nil && d.done }

// Err is what was wrong.
func (d *Decoder) Err() api.Errno {
	if d == nil {
		return api.OK
	}
	return d.err
}

// Body is the bytes of chunks so far.
func (d *Decoder) Body() string {
	if d == nil {
		return ""
	}
	return string(d.body)
}

// Trailers is the trailers so far.
func (d *Decoder) Trailers() []api.Field {
	if d == nil {
		return nil
	}
	l := make([]api.Field, len(d.trailers))
	copy(l, d.trailers)
	return l
}

// Total is how many bytes were taken in all.
func (d *Decoder) Total() int {
	if d == nil {
		return 0
	}
	return d.total
}

// inSize takes a byte of a size line.
func (d *Decoder) inSize(s string) int {
	d.line = append(d.line, s[0])
	switch {
	case s[0] == '\n':
		d.endSize()
	case len(d.line) == api.MaxSizeLine:
		d.end(api.ErrChunk)
	}
	return 1
}

// endSize reads the size line that has just ended.
func (d *Decoder) endSize() {
	line, right := d.takeLine()
	size, _, err := ParseSize(line)
	switch {
	case !right:
		d.end(api.ErrChunk)
	case err != api.OK:
		d.end(err)
	case size > d.most:
		d.end(api.ErrMuch)
	case size == 0:
		d.next = (*Decoder).inTrailers
	default:
		d.most -= size
		d.left = size
		d.next = (*Decoder).inChunk
	}
}

// inChunk takes bytes of a chunk, as many as are there. Room is made for no more than these: a size alone costs nothing.
func (d *Decoder) inChunk(s string) int {
	n := min(len(s), d.left)
	have := len(d.body)
	d.body = slices.Grow(d.body, n)[:have+n]
	copy(d.body[have:], s)
	d.left -= n
	if d.left == 0 {
		d.next = (*Decoder).behindChunk
	}
	return n
}

// behindChunk takes the first byte of a chunk's end.
func (d *Decoder) behindChunk(s string) int {
	d.next = (*Decoder).behindReturn
	if s[0] != '\r' {
		d.end(api.ErrChunk)
	}
	return 1
}

// behindReturn takes the last byte of a chunk's end.
func (d *Decoder) behindReturn(s string) int {
	d.next = (*Decoder).inSize
	if s[0] != '\n' {
		d.end(api.ErrChunk)
	}
	return 1
}

// inTrailers takes a byte of the trailer section.
func (d *Decoder) inTrailers(s string) int {
	if d.room == 0 {
		d.end(api.ErrTrailers)
		return 1
	}
	d.room--
	d.line = append(d.line, s[0])
	if s[0] == '\n' {
		d.endTrailer()
	}
	return 1
}

// endTrailer reads the line of the trailer section that has just ended.
func (d *Decoder) endTrailer() {
	line, right := d.takeLine()
	switch {
	case !right:
		d.end(api.ErrTrailer)
	case line == "":
		d.end(api.OK)
	case d.fields == 0:
		d.end(api.ErrTrailers)
	default:
		d.keepTrailer(line)
	}
}

func (d *Decoder) keepTrailer(line string) {
	f, _, err := field.ParseLine(line)
	if err != api.OK || !MayTrail(f.Name) {
		d.end(api.ErrTrailer)
		return
	}
	d.fields--
	d.trailers = append(d.trailers, f)
}

// takeLine is what the line says that has just ended, and whether it ends rightly; the next one begins.
func (d *Decoder) takeLine() (string, bool) {
	line, right := strings.CutSuffix(string(d.line), lineEnd)
	d.line = d.line[:0]
	return line, right
}

// end takes nothing more: the decoder has failed, or it is done.
func (d *Decoder) end(err api.Errno) {
	d.next = nil
	d.line = nil
	d.err = err
	d.done = err == api.OK
}
