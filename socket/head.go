package socket

import "turnpike/api"

// head is what stands ahead of a frame's body.
type head struct {
	fin, against, masked bool // against: a bit is set that may not be
	kind                 int
	short                byte   // the length byte
	length               uint64 // eight bytes may say more than an int has room for
	mask                 string
	size                 int // bytes of the head
}

// readHead reads the head that begins a text, if it is all there.
func readHead(s string) (head, bool) {
	if len(s) < sizeStart || len(s) < headSize(s[1]) {
		return head{}, false
	}
	h := head{
		fin:     s[0]&bitFin != 0,
		against: s[0]&bitsAgainst != 0,
		masked:  s[1]&bitMasked != 0,
		kind:    int(s[0] & bitsKind),
		short:   s[1] & bitsLength,
		size:    headSize(s[1]),
	}
	more := sizeStart + moreBytes(s[1])
	h.length = uint64(h.short)
	if more > sizeStart {
		h.length = number(s[sizeStart:more])
	}
	h.mask = s[more:h.size]
	return h, true
}

// fault is what is wrong with a head, wherever the frame stands and however long it may be.
func (h head) fault() api.Errno {
	switch {
	case h.against:
		return api.ErrReserved
	case !isKind(h.kind):
		return api.ErrOpcode
	case isControl(h.kind) && (!h.fin || h.short > maxControl):
		return api.ErrControl
	case h.short != lengthByte(h.length):
		return api.ErrSize
	}
	return api.OK
}

// frame is the frame of a head and of a body as it went over the line.
func (h head) frame(body string) api.Frame {
	return api.Frame{Fin: h.fin, Masked: h.masked, Op: h.kind, Mask: h.mask, Body: Mask(body, h.mask)}
}

// headSize is how many bytes a head has of which that is the second one.
func headSize(second byte) int {
	n := sizeStart + moreBytes(second)
	if second&bitMasked != 0 {
		n += sizeMask
	}
	return n
}

// moreBytes is in how many bytes behind a head's second one the length stands.
func moreBytes(second byte) int {
	switch second & bitsLength {
	case lengthTwo:
		return 2
	case lengthEight:
		return 8
	}
	return 0
}

// lengthByte is the length byte of the shortest form.
func lengthByte(length uint64) byte {
	switch {
	case length <= maxShort:
		return byte(length)
	case length <= maxTwo:
		return lengthTwo
	}
	return lengthEight
}
