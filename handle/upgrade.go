package handle

import (
	"turnpike/api"
	"turnpike/base"
	"turnpike/field"
	"turnpike/shelf"
)

const protocolVersion = "13"

func answerSocket(h api.Handler, a api.Asked, s *shelf.Shelf) api.Response {
	r := a.Request
	if r.Method != "GET" || r.Major != 1 || r.Minor != 1 {
		return Plain(badRequest)
	}
	if !field.Has(r.Fields, "Upgrade", "websocket") || !field.Has(r.Fields, "Connection", "upgrade") {
		return Plain(upgradeRequired, upgraded()...)
	}
	if only(r.Fields, "Sec-WebSocket-Version") != protocolVersion {
		return Plain(upgradeRequired, api.Field{Name: "Sec-WebSocket-Version", Value: protocolVersion})
	}
	answer, err := base.Accept(only(r.Fields, "Sec-WebSocket-Key"))
	if err != api.OK {
		return Plain(badRequest)
	}
	l := append(upgraded(), api.Field{Name: "Sec-WebSocket-Accept", Value: answer})
	return api.Response{Status: switching, Fields: l}
}

// upgraded is the fields that tell what is spoken behind an upgrade.
func upgraded() []api.Field {
	return []api.Field{{Name: "Upgrade", Value: "websocket"}, {Name: "Connection", Value: "Upgrade"}}
}
