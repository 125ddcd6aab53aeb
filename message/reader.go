package message

import (
	"slices"

	"turnpike/api"
)

// Reader reads the responses of a stream.
type Reader struct {
	stream
	most    int         // bytes of a body
	asked   []string    // the methods of the requests that wait
	replies []api.Reply // those that were read and not taken
	over    bool
	err     api.Errno
}

// New is a reader to which nothing was fed.
func New(most int) (*Reader, api.Errno) {
	if most < 0 {
		return nil, api.ErrArg
	}
	return &Reader{most: most}, api.OK
}

// Ask tells the reader that a request was sent.
func (r *Reader) Ask(method string) api.Errno {
	if r == nil {
		return api.OK
	}
	if len(r.asked) == api.MaxAsked {
		return api.ErrMany
	}
	r.asked = append(r.asked, method)
	return api.OK
}

// Feed takes bytes that came behind those ahead.
func (r *Reader) Feed(s string) api.Errno {
	switch {
	case r == nil:
		return api.OK
	case r.shut():
		return api.ErrStream
	}
	r.piece = s
	return r.read()
}

// End tells the reader that its stream has ended.
func (r *Reader) End() api.Errno {
	switch {
	case r == nil:
		return api.OK
	case r.shut():
		return api.ErrStream
	}
	r.ended = true
	err := r.read()
	if err == api.OK && r.holds() {
		err = r.fail(api.ErrPartial)
	}
	return err
}

// shut tells whether nothing more may come.
func (r *Reader) shut() bool { return r.err != api.OK || r.ended }

// read reads the responses that are all there.
func (r *Reader) read() api.Errno {
	for r.holds() && !r.over {
		if len(r.asked) == 0 {
			return r.fail(api.ErrStream)
		}
		done, err := r.readResponse(r.asked[0], r.most)
		switch {
		case err != api.OK:
			return r.fail(err)
		case !done:
			return api.OK
		}
		r.keep(r.takeReply())
	}
	r.letGo()
	return api.OK
}

// keep keeps a reply to the first request that waits.
func (r *Reader) keep(reply api.Reply) {
	r.replies = append(r.replies, reply)
	status := reply.Response.Status
	if Interim(status) {
		return
	}
	r.over = !reply.Persist || status == switching || tunnels(r.asked[0], status)
	r.asked = slices.Delete(r.asked, 0, 1)
}

// fail keeps what is wrong, and nothing of what was not read.
func (r *Reader) fail(err api.Errno) api.Errno {
	r.err = err
	r.letGo()
	return err
}

// Next takes the first reply that was read.
func (r *Reader) Next() (api.Reply, bool) {
	if r == nil || len(r.replies) == 0 {
		return api.Reply{}, false
	}
	reply := r.replies[0]
	r.replies[0] = api.Reply{} // what was taken is not kept
	r.replies = r.replies[1:]
	return reply, true
}

// Asked is how many requests wait.
func (r *Reader) Asked() int {
	if r == nil {
		return 0
	}
	return len(r.asked)
}

// Err is what is wrong.
func (r *Reader) Err() api.Errno {
	if r == nil {
		return api.OK
	}
	return r.err
}

// Over tells whether the stream is over, or has ended.
func (r *Reader) Over() bool { return r != nil && (r.over || r.ended) }
