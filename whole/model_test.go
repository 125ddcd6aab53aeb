package whole_test

import (
	"sort"
	"strings"

	"turnpike/api"
	"turnpike/app"
	"turnpike/parse"
	"turnpike/socket"
)

// modelRun goes through what came in by the chapter's steps, and looks at all of it anew at each one.
func modelRun(a *app.App, in string, ended bool) api.Outcome {
	if a == nil {
		return api.Outcome{Closed: true}
	}
	c := a.Config()
	var o api.Outcome
	for {
		rest := in[o.Used:]
		if head, waits := modelWaits(c.Limits, rest); waits && a.Go(head) {
			o.Out += "HTTP/1.1 100 Continue\r\n\r\n"
		}
		r, n, f, kind := parse.Whole(c.Limits, rest)
		o.Used += n
		switch kind {
		case api.ParseMore:
			o.Closed = ended
			return o
		case api.ParseFault:
			o.Out += a.Fail(f)
			o.Closed = true
			return o
		}
		o.Requests++
		said, x := a.Bytes(r, o.Requests)
		o.Out += said
		switch {
		case x.Close:
			o.Closed = true
			return o
		case x.Upgrade:
			return modelFrames(o, c.Frame, in[o.Used:], ended)
		}
	}
}

// modelWaits is the head with which a text begins, and whether somebody waits there.
func modelWaits(l api.Limits, s string) (api.Request, bool) {
	ahead := len(s) - len(strings.TrimLeft(s, "\r\n"))
	at := strings.Index(s[ahead:], "\r\n\r\n")
	if at < 0 {
		return api.Request{}, false
	}
	p, _ := parse.New(l)
	p.Feed(s[:ahead+at+4])
	r, _ := p.Head()
	return r, p.Waits()
}

// modelFrames lays what a socket's peer says behind what was said ahead.
func modelFrames(o api.Outcome, most int, s string, ended bool) api.Outcome {
	n := sort.Search(len(s), func(n int) bool {
		_, closed := socket.Whole(most, s[:n])
		return closed
	})
	said, closed := socket.Whole(most, s)
	o.Out += said
	o.Used += n
	o.Upgraded = true
	o.Closed = closed || ended
	return o
}
