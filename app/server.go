package app

import (
	"slices"

	"turnpike/api"
	"turnpike/chain"
	"turnpike/field"
	"turnpike/handle"
	"turnpike/route"
	"turnpike/shelf"
	"turnpike/stamp"
)

const (
	dateless = -1 // of a configuration: no moment stands in answers
	noRoute  = -1 // of an answer: no route was found
)

// server is a configuration, and what is made of it ahead of all requests.
type server struct {
	api.Config
	table *route.Table
	shelf *shelf.Shelf
}

// newServer is that of a configuration that is valid.
func newServer(c api.Config) *server {
	s := &server{Config: copied(c)}
	// Neither refuses what a valid configuration has.
	s.table, _, _ = route.New(s.Routes, s.Slash)
	s.shelf, _, _ = shelf.New(s.Files)
	return s
}

// copied is a configuration in memory of its own.
func copied(c api.Config) api.Config {
	c.Middles = copiedMiddles(c.Middles)
	c.Routes = slices.Clone(c.Routes)
	for i := range c.Routes {
		x := &c.Routes[i]
		x.Methods, x.Middles = slices.Clone(x.Methods), copiedMiddles(x.Middles)
	}
	c.Files = slices.Clone(c.Files)
	return c
}

func copiedMiddles(l []api.Middle) []api.Middle {
	l = slices.Clone(l)
	for i := range l {
		l[i].List = slices.Clone(l[i].List)
	}
	return l
}

// moment is what now is, whenever a request comes.
func (s *server) moment() int {
	if s.Date == dateless {
		return 0
	}
	return s.Date
}

// lets tells whether whoever sent a request's head hears that the body may come.
func (s *server) lets(r api.Request) bool {
	r.Body = "" // nobody knows it yet, so that no limit of bodies has a part
	v := visit{server: s, ask: grant, place: noRoute}
	return v.answer(r).Status < badRequest
}

// answer is the answer to the n-th request of a connection, before anyone has tried to write it.
func (s *server) answer(r api.Request, n int) api.Answer {
	v := visit{server: s, ask: handle.Answer, place: noRoute}
	x := s.signed(conditioned(v.answer(r), r, s.moment()))
	upgrades := x.Status == switching
	return api.Answer{Response: x, Close: !upgrades && s.closes(r, n, x.Status), Upgrade: upgrades, Route: v.place}
}

// plain is a plain response with what a server adds.
func (s *server) plain(status int) api.Response { return s.signed(chain.Plain(status, nil)) }

// signed is a response with what a server adds.
func (s *server) signed(x api.Response) api.Response {
	if s.Date != dateless {
		date, _ := stamp.Print(s.Date)
		x = withOwn(x, api.Field{Name: "Date", Value: date})
	}
	if s.Name != "" {
		x = withOwn(x, api.Field{Name: "Server", Value: s.Name})
	}
	return x
}

// withOwn is a response with a field behind all, unless it has one of that name.
func withOwn(x api.Response, f api.Field) api.Response {
	if _, has := field.Find(x.Fields, f.Name); !has {
		x.Fields = append(x.Fields, f)
	}
	return x
}

// closes tells whether a connection goes no further than the answer of a status to its n-th request.
func (s *server) closes(r api.Request, n, status int) bool {
	isLast := s.Requests > 0 && n == s.Requests
	return isLast || isGrave(status) || !field.Persist(r.Fields, isOld(r))
}

// isOld tells whether a request is of a version that closes unless it is asked not to.
func isOld(r api.Request) bool { return r.Minor == 0 }
