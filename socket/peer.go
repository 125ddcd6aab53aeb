package socket

import (
	"strings"

	"turnpike/api"
)

// Peer is the server's end of a line of frames.
type Peer struct {
	most    int
	next    func(p *Peer) string // is called as soon as want bytes of a frame are there, and tells what the peer says to them; none: nothing is taken
	want    int
	held    []byte // what is there of the frame that was not taken yet
	head    head   // its head, once that is right
	kind    int    // the kind of the message that has begun; OpMore: none has
	message []byte // what is there of it
	code    int    // with which it has closed
	echoed  int
}

// Whole is what a new peer says to a text that comes at once, and whether it is closed then.
func Whole(most int, in string) (string, bool) {
	p, err := New(most)
	if err != api.OK {
		return "", false
	}
	return p.Feed(in), p.Closed()
}

// New is a peer to which nothing came.
func New(most int) (*Peer, api.Errno) {
	if most < 0 || most > api.MaxMessage {
		return nil, api.ErrArg
	}
	p := &Peer{most: most}
	p.begin()
	return p, api.OK
}

// Feed takes bytes, and is what the peer says to them.
func (p *Peer) Feed(s string) string {
	if p == nil {
		return ""
	}
	var said strings.Builder
	for p.next != nil {
		n := min(p.want-len(p.held), len(s))
		p.held = append(p.held, s[:n]...)
		s = s[n:]
		if len(p.held) < p.want {
			break
		}
		said.WriteString(p.next(p))
	}
	return said.String()
}

// Closed tells whether it has said that it closes.
func (p *Peer) Closed() bool { return p.Code() != 0 }

// Code is with which code it has closed.
func (p *Peer) Code() int {
	if p == nil {
		return 0
	}
	return p.code
}

// Held is how many bytes it keeps.
func (p *Peer) Held() int {
	if p == nil {
		return 0
	}
	return len(p.message) + len(p.held)
}

// Echoed is how many messages it has said.
func (p *Peer) Echoed() int {
	if p == nil {
		return 0
	}
	return p.echoed
}

// begin waits for a frame.
func (p *Peer) begin() {
	p.held = nil
	p.want = sizeStart
	p.next = (*Peer).behindStart
}

// behindStart knows how long the head is.
func (p *Peer) behindStart() string {
	p.want = headSize(p.held[1])
	p.next = (*Peer).behindHead
	return ""
}

// behindHead knows whether the frame may come. The body's room is made only as it comes: a length alone costs nothing.
func (p *Peer) behindHead() string {
	p.head, _ = readHead(string(p.held))
	if code := p.refusal(p.head); code != 0 {
		return p.closeWith(code)
	}
	p.want = p.head.size + int(p.head.length)
	p.next = (*Peer).behindBody
	return ""
}

// refusal is the code with which a frame of such a head is refused; 0: it may come.
func (p *Peer) refusal(h head) int {
	goesOn, begun := h.kind == api.OpMore, p.kind != api.OpMore
	switch {
	case h.fault() != api.OK, !h.masked:
		return codeWrong
	case isControl(h.kind):
		return 0
	case goesOn != begun:
		return codeWrong
	case h.length > uint64(p.most-len(p.message)):
		return codeLarge
	}
	return 0
}

// behindBody takes the frame.
func (p *Peer) behindBody() string {
	f := p.head.frame(string(p.held[p.head.size:]))
	p.begin()
	switch f.Op {
	case api.OpPing:
		return say(api.OpPong, f.Body)
	case api.OpPong:
		return ""
	case api.OpClose:
		return p.answerClose(f.Body)
	}
	return p.takePart(f)
}

func (p *Peer) answerClose(body string) string {
	code, _, err := ParseClose(body)
	switch err {
	case api.OK:
		return p.closeWith(code)
	case api.ErrText:
		return p.closeWith(codeNoText)
	}
	return p.closeWith(codeWrong)
}

// takePart takes a message's part, the whole of it or one of several.
func (p *Peer) takePart(f api.Frame) string {
	if f.Op != api.OpMore {
		p.kind = f.Op
	}
	p.message = append(p.message, f.Body...)
	if !f.Fin {
		return ""
	}
	kind, message := p.kind, string(p.message)
	p.kind, p.message = api.OpMore, nil
	if kind == api.OpText && !IsText(message) {
		return p.closeWith(codeNoText)
	}
	p.echoed++
	return say(kind, message)
}

// closeWith says that it closes, and lets go of all that it holds.
func (p *Peer) closeWith(code int) string {
	*p = Peer{code: code, echoed: p.echoed}
	body := ""
	if code != codeNone {
		body, _ = PrintClose(code, "")
	}
	return say(api.OpClose, body)
}

// say is a frame as a server sends it.
func say(op int, body string) string {
	return write(api.Frame{Fin: true, Op: op, Body: body})
}
