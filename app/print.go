package app

import (
	"turnpike/api"
	"turnpike/message"
)

// printed is an answer as bytes; one that can't be written is given up for another one.
func (s *server) printed(r api.Request, x api.Answer) (string, api.Answer) {
	text, err := message.Print(x.Response, mannerTo(r, x.Close))
	if err != api.OK {
		return s.failed(r, x.Route)
	}
	return text, x
}

// failed is the answer to a request that stands where there can be no other one.
func (s *server) failed(r api.Request, place int) (string, api.Answer) {
	x := api.Answer{Response: s.plain(serverError), Close: true, Route: place}
	text, _ := message.Print(x.Response, mannerTo(r, x.Close))
	return text, x
}

// mannerTo is how the response to a request is written.
func mannerTo(r api.Request, closes bool) api.Manner {
	return api.Manner{Method: r.Method, Close: closes, Old: isOld(r)}
}

// refusal is a plain response as bytes, to whatever was no request. A status that can't be written so is given up for another one.
func (s *server) refusal(status int) string {
	how := api.Manner{Method: methodGet, Close: true}
	text, err := message.Print(s.plain(status), how)
	if err != api.OK {
		text, _ = message.Print(s.plain(badRequest), how)
	}
	return text
}
