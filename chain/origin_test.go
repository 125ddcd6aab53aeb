package chain_test

import (
	"math"
	"testing"

	"turnpike/api"
	"turnpike/chain"
)

const (
	allowOrigin   = "Access-Control-Allow-Origin"
	allowMethods  = "Access-Control-Allow-Methods"
	allowHeaders  = "Access-Control-Allow-Headers"
	maxAge        = "Access-Control-Max-Age"
	requestMethod = "Access-Control-Request-Method"
	requestNames  = "Access-Control-Request-Headers"
)

func options(l ...string) api.Request {
	return api.Request{Method: "OPTIONS", Target: "/x", Fields: fields(l...)}
}

func get(l ...string) api.Request {
	return api.Request{Method: "GET", Target: "/x", Fields: fields(l...)}
}

// checkFields runs an element that hands a request on as it is, and lays fields behind those of the response.
func checkFields(t *testing.T, m api.Middle, r api.Request, further ...string) {
	t.Helper()
	checkOn(t, []api.Middle{m}, r, r, thanks(), thanks(further...))
}

func allowed(l ...string) api.Response { return answerOf(204, l...) }

// 19.2: example 5; an answer ahead of a request has its fields in their order, no body and no media type.
func TestPreflight(t *testing.T) {
	all := api.Middle{Kind: api.MiddleOrigin, List: list("*"), N: 60}
	checkAnswered(t, all, options("Origin", "x", requestMethod, "PUT"), allowed(allowOrigin, "*", allowMethods, "PUT", maxAge, "60"))
	some := api.Middle{Kind: api.MiddleOrigin, List: list("http://a", "http://b"), Value: "GET, PUT"}
	checkAnswered(t, some, options("Origin", "http://b", requestMethod, "PATCH", requestNames, "X-A"),
		allowed(allowOrigin, "http://b", allowMethods, "GET, PUT", allowHeaders, "X-A", maxAge, "0", "Vary", "Origin"))
	some.Value, some.N = "", math.MaxInt
	checkAnswered(t, some, options(requestMethod, "a b, c", "Origin", "http://a"),
		allowed(allowOrigin, "http://a", allowMethods, "a b, c", maxAge, "9223372036854775807", "Vary", "Origin"))
}

// 19.2: names of fields in whatever case; what is asked is told as it stands, also if it is empty.
func TestPreflightFields(t *testing.T) {
	all := api.Middle{Kind: api.MiddleOrigin, List: list("*"), N: 1}
	checkAnswered(t, all, options("ORIGIN", "", "access-control-request-METHOD", ""), allowed(allowOrigin, "*", allowMethods, "", maxAge, "1"))
	checkAnswered(t, all, options("origin", "null", requestMethod, "PUT", requestNames, ""),
		allowed(allowOrigin, "*", allowMethods, "PUT", allowHeaders, "", maxAge, "1"))
	checkAnswered(t, all, options("origin", "null", requestNames, "A,b", requestMethod, "PUT", "access-control-request-headers", " c", "X", "1", requestNames, ""),
		allowed(allowOrigin, "*", allowMethods, "PUT", allowHeaders, "A,b,  c, ", maxAge, "1"))
}

// 19.2: of an origin that is let in any other request is handed on, and the response tells so behind all.
func TestAllowedOrigin(t *testing.T) {
	all := api.Middle{Kind: api.MiddleOrigin, List: list("*"), Value: "PUT", N: 60}
	some := api.Middle{Kind: api.MiddleOrigin, List: list("a", "b"), Value: "PUT", N: 60}
	for _, r := range []api.Request{
		get("Origin", "b"),
		get("oRIGIN", "b", requestMethod, "GET", requestNames, "X"),
		options("Origin", "b"),
		options("Origin", "b", requestNames, "X"),
		options("Origin", "b", requestMethod, "GET", requestMethod, "GET"),
		{Method: "options", Fields: fields("Origin", "b", requestMethod, "GET")},
		{Method: "", Fields: fields("Origin", "b", requestMethod, "GET")},
	} {
		checkFields(t, all, r, allowOrigin, "*")
		checkFields(t, some, r, allowOrigin, "b", "Vary", "Origin")
	}
	for _, origin := range []string{"", "*", "http://x", "a b", "\n"} {
		checkFields(t, all, get("Origin", origin), allowOrigin, "*")
	}
}

// 19.2: of any other origin nothing is done, but that the response says that it hangs on it.
func TestOtherOrigins(t *testing.T) {
	all := api.Middle{Kind: api.MiddleOrigin, List: list("*"), Value: "PUT", N: 60}
	some := api.Middle{Kind: api.MiddleOrigin, List: list("http://a", "b"), Value: "PUT", N: 60}
	asks := []string{requestMethod, "GET", requestNames, "X"}
	for _, l := range [][]string{nil, {"Origins", "b"}, {"Origin", "b", "Origin", "b"}, {"Origin", "b", "origin", "c"}, {"Origin", "", "ORIGIN", "b"}} {
		for _, r := range []api.Request{get(l...), options(l...), options(append(l, asks...)...)} {
			checkFields(t, all, r)
			checkFields(t, some, r, "Vary", "Origin")
		}
	}
	for _, origin := range []string{"", "*", "B", "http://A", "http://a/", " b", "b ", "http://a, b", "c"} {
		l := []string{"Origin", origin}
		for _, r := range []api.Request{get(l...), options(l...), options(append(l, asks...)...)} {
			checkFields(t, some, r, "Vary", "Origin")
		}
	}
	checkFields(t, some, api.Request{Trailers: fields("Origin", "b")}, "Vary", "Origin")
}

// 19.2: what an element behind it answers itself gets the fields, too.
func TestOriginOfRefusal(t *testing.T) {
	l := []api.Middle{{Kind: api.MiddleOrigin, List: list("a")}, {Kind: api.MiddleMethods, List: list("PUT")}}
	if x := chain.Run(l, get("Origin", "a"), nil); !same(x, plain(405, "Method Not Allowed", "Allow", "PUT", allowOrigin, "a", "Vary", "Origin")) {
		t.Error(show(x))
	}
	if x := chain.Run(l, get(), nil); !same(x, plain(405, "Method Not Allowed", "Allow", "PUT", "Vary", "Origin")) {
		t.Error(show(x))
	}
	if x := chain.Run(l, options("Origin", "a", requestMethod, "PUT"), nil); !same(x, allowed(allowOrigin, "a", allowMethods, "PUT", maxAge, "0", "Vary", "Origin")) {
		t.Error(show(x))
	}
}

// 19.2: all choices of fields out of a row against the model.
func TestOriginByModel(t *testing.T) {
	row := fields("Origin", "a", requestMethod, "PUT", requestNames, "X", "origin", "b", "access-control-request-method", "", requestNames, "", "Origin", "*")
	statuses := map[int]int{}
	for set := range 1 << len(row) {
		var l []api.Field
		for i, f := range row {
			if set>>i&1 == 1 {
				l = append(l, f)
			}
		}
		for _, m := range []api.Middle{{List: list("*")}, {List: list("a")}, {List: list("b", "a"), N: 5}, {List: list("c"), Value: "A"}, {List: list("*"), Value: "A, B", N: 7}, {List: list("b"), Value: "A"}} {
			m.Kind = api.MiddleOrigin
			for _, method := range []string{"OPTIONS", "GET"} {
				r := api.Request{Method: method, Fields: l}
				h := &handler{response: thanks()}
				x := chain.Run([]api.Middle{m}, r, h.answer)
				if !same(x, modelRun([]api.Middle{m}, r, (&handler{response: thanks()}).answer)) || (len(h.asked) == 0) != (x.Status == 204) {
					t.Fatalf("Run(%s, %s): %s", show(m), show(r), show(x))
				}
				statuses[x.Status]++
			}
		}
	}
	if statuses[200] == 0 || statuses[204] == 0 {
		t.Error(statuses)
	}
}
