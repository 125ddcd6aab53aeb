package app

import (
	"turnpike/api"
	"turnpike/chain"
	"turnpike/octet"
	"turnpike/shelf"
	"turnpike/target"
)

// visit is a request on its way through a server.
type visit struct {
	*server
	ask   func(h api.Handler, a api.Asked, s *shelf.Shelf) api.Response // asks a route's handler
	place int                                                           // of the route that was found
}

// grant stands where a handler is not asked.
func grant(api.Handler, api.Asked, *shelf.Shelf) api.Response { return api.Response{Status: fine} }

// answer is what comes back for a request, whatever it says of conditions and ranges.
func (v *visit) answer(r api.Request) api.Response {
	return withTarget(r, func(api.Target) api.Response { return chain.Run(v.Middles, r, v.found) })
}

// withTarget answers a request by its target. That is read anew behind each chain, which may have changed it.
func withTarget(r api.Request, answer func(t api.Target) api.Response) api.Response {
	t, _, err := target.Parse(r.Method, r.Target)
	if err != api.OK {
		return chain.Plain(badRequest, nil)
	}
	return answer(t)
}

// found is what is answered to a request that the server's chain has handed on.
func (v *visit) found(r api.Request) api.Response {
	return withTarget(r, func(t api.Target) api.Response {
		switch t.Form {
		case api.FormAsterisk:
			return allowing(v.table.All())
		case api.FormAuthority:
			return chain.Plain(notImplemented, nil)
		}
		return v.matched(r, t)
	})
}

// allowing is an answer that says which methods may be used, and no more.
func allowing(methods []string) api.Response {
	return api.Response{Status: noContent, Fields: []api.Field{allow(methods)}}
}

func allow(methods []string) api.Field { return api.Field{Name: "Allow", Value: octet.Join(methods)} }

// matched is what is answered to a request for a path.
func (v *visit) matched(r api.Request, t api.Target) api.Response {
	path, _ := target.Normal(t.Path) // what target.Parse tells of these forms is a path
	m := v.table.Match(r.Method, path)
	switch m.Kind {
	case api.MatchFound:
		v.place = m.Route
		x := v.Routes[m.Route]
		return chain.Run(x.Middles, r, v.asking(x.Handler, m.Params))
	case api.MatchMethod:
		return chain.Plain(methodNotAllowed, []api.Field{allow(m.Allow)})
	case api.MatchOptions:
		return allowing(m.Allow)
	case api.MatchSlash:
		return chain.Plain(permanentRedirect, []api.Field{{Name: "Location", Value: m.To + queryOf(t)}})
	}
	return chain.Plain(notFound, nil)
}

// queryOf is a target's query with what stands ahead of it, if there is one.
func queryOf(t api.Target) string {
	if !t.HasQuery {
		return ""
	}
	return "?" + t.Query
}

// asking is what stands behind a route's chain.
func (v *visit) asking(h api.Handler, params []api.Param) func(r api.Request) api.Response {
	return func(r api.Request) api.Response {
		return withTarget(r, func(t api.Target) api.Response {
			return v.ask(h, api.Asked{Request: r, Target: t, Params: params, Now: v.moment()}, v.shelf)
		})
	}
}
