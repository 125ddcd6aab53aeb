package handle

import (
	"slices"

	"turnpike/api"
	"turnpike/field"
	"turnpike/message"
	"turnpike/octet"
	"turnpike/shelf"
)

// The statuses that are named by what they are for.
const (
	switching        = 101
	fine             = 200
	noContent        = 204
	movedPermanently = 301
	notModified      = 304
	badRequest       = 400
	notFound         = 404
	notAcceptable    = 406
	tooLarge         = 413
	unsupported      = 415
	upgradeRequired  = 426
	serverError      = 500
)

const (
	plainText = "text/plain; charset=utf-8"
	lineFeed  = "\n"
)

// Plain is a status in words, with further fields behind.
func Plain(status int, l ...api.Field) api.Response {
	reason := message.Reason(status)
	if reason == "" {
		reason = "Status " + octet.Digits(status)
	}
	return written(status, plainText, reason+lineFeed, l...)
}

// texted is a text answer, with further fields behind.
func texted(text string, l ...api.Field) api.Response {
	return written(fine, plainText, text, l...)
}

// written is a response with a body of a media type, with further fields behind.
func written(status int, media, body string, l ...api.Field) api.Response {
	fields := slices.Concat([]api.Field{{Name: "Content-Type", Value: media}}, l)
	return api.Response{Status: status, Fields: fields, Body: body}
}

// only is the value of the one field of a name; where there are several it is empty, as where there is none.
func only(l []api.Field, name string) string {
	values := field.All(l, name)
	if len(values) != 1 {
		return ""
	}
	return values[0]
}

func isMedia(s string) bool { return s != "" && field.IsValue(s) }

func answerText(h api.Handler, a api.Asked, s *shelf.Shelf) api.Response {
	return written(h.Status, h.Media, h.Text)
}

func answerStatus(h api.Handler, a api.Asked, s *shelf.Shelf) api.Response {
	if isBare(h.Status) {
		return api.Response{Status: h.Status}
	}
	return Plain(h.Status)
}
