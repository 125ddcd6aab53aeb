package whole

import (
	"strings"

	"turnpike/api"
	"turnpike/socket"
)

// wordOn is the word to go on.
const wordOn = "HTTP/1.1 100 Continue\r\n\r\n"

// inHead takes no more than a line. A head ends with one, so that the parser is asked whether somebody waits when it has all of the head and nothing of the body.
func (x *Stream) inHead(s string) int {
	n := x.parser.Feed(firstLine(s))
	if x.parser.State() == api.StateBody {
		x.letGoOn()
		x.next = x.inBody
	}
	x.settle()
	return n
}

// firstLine is a text up to and with its first line feed, or all of it.
func firstLine(s string) string {
	if at := strings.IndexByte(s, '\n'); at >= 0 {
		return s[:at+1]
	}
	return s
}

func (x *Stream) letGoOn() {
	if r, _ := x.parser.Head(); x.parser.Waits() && x.app.Go(r) {
		x.said.WriteString(wordOn)
	}
}

// inBody takes whatever belongs to the body.
func (x *Stream) inBody(s string) int {
	n := x.parser.Feed(s)
	x.settle()
	return n
}

// settle says what there is to say to a request or a fault, as soon as one is there.
func (x *Stream) settle() {
	if r, isDone := x.parser.Request(); isDone {
		x.answer(r)
	} else if f, isFault := x.parser.Fault(); isFault {
		x.said.WriteString(x.app.Fail(f))
		x.shut()
	}
}

func (x *Stream) answer(r api.Request) {
	x.requests++
	said, how := x.app.Bytes(r, x.requests)
	x.said.WriteString(said)
	switch {
	case how.Close:
		x.shut()
	case how.Upgrade:
		x.upgrade()
	default:
		x.parser.Next()
		x.next = x.inHead
	}
}

func (x *Stream) upgrade() {
	x.upgraded = true
	x.parser = nil
	x.peer, _ = socket.New(x.frame)
	x.next = x.inFrames
}

// inFrames takes one byte alone: the peer does not tell how many it took ahead of closing.
func (x *Stream) inFrames(s string) int {
	x.said.WriteString(x.peer.Feed(s[:1]))
	if x.peer.Closed() {
		x.shut()
	}
	return 1
}
