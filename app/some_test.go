package app_test

import (
	"fmt"
	"math/rand/v2"
	"testing"

	"turnpike/api"
	"turnpike/config"
)

// example is the configuration of the chapter's examples.
const example = `requests 3;
route GET /a { text 200 text/plain hello; } route PUT /a { status 204; } route GET /f/*r { static r 0; }
file /x.txt { media text/plain; body 0123456789; time 784111777; }`

// wholeExample is the configuration of the examples of the whole.
const wholeExample = `route GET /a { text 200 text/plain hello; } route GET /f/*r { static r 0; } route /s { socket; }
file /x.txt { media text/plain; body 0123456789; }`

// busy has a chain, a name, a date, and routes with chains.
const busy = `name "the server"; date 784111777; slash; requests 5;
middle add X-A 1; middle origin 60 "" http://o; middle body 50; middle cache no-cache;
route GET /in { middle basic r u:p; echo; }
route GET PUT /u/:id/*rest { middle strip /u; middle set X-B 2; params; }
route POST /form { form 9; } route GET /n { count n; } route /s { socket; } route GET /to/:x { redirect 302 "/{x}"; }
route GET /f/*r { static r 1; } route GET /g { status 500; } route /all { echo; }
file /x.txt { media text/plain; language en; body 0123456789; time 784111777; }
file /x.txt { media text/plain; language de; body 9876543210; }
file /d/index.html { body "<p>"; coding gzip; } file /e/f { body ""; }`

func someMiddles() []api.Middle {
	return []api.Middle{
		{Kind: api.MiddleAdd, Name: "X", Value: "1"},
		{Kind: api.MiddleAdd, Name: "ETag", Value: "\"own\""},
		{Kind: api.MiddleAdd, Name: "etag", Value: "no tag"},
		{Kind: api.MiddleAdd, Name: "Last-Modified", Value: "Sun, 06 Nov 1994 08:49:37 GMT"},
		{Kind: api.MiddleAdd, Name: "last-modified", Value: "never"},
		{Kind: api.MiddleAdd, Name: "Accept-Ranges", Value: "bytes"},
		{Kind: api.MiddleAdd, Name: "accept-ranges", Value: "bytes"},
		{Kind: api.MiddleAdd, Name: "Accept-Ranges", Value: "none"},
		{Kind: api.MiddleSet, Name: "content-type", Value: "a/b"},
		{Kind: api.MiddleSet, Name: "ETag", Value: "W/\"own\""},
		{Kind: api.MiddleDrop, Name: "Content-Type"},
		{Kind: api.MiddleDrop, Name: "ETag"},
		{Kind: api.MiddleAdd, Name: "Content-Encoding", Value: "gzip"},
		{Kind: api.MiddleAdd, Name: "Date", Value: "today"},
		{Kind: api.MiddleAdd, Name: "server", Value: "mine"},
		{Kind: api.MiddleMethods, List: []string{"GET", "HEAD", "OPTIONS"}},
		{Kind: api.MiddleBody, N: 3},
		{Kind: api.MiddleStrip, Value: "/a"},
		{Kind: api.MiddleBasic, Name: "r", List: []string{"u:p"}},
		{Kind: api.MiddleOrigin, List: []string{"o"}, N: 60},
		{Kind: api.MiddleOrigin, List: []string{"*"}},
		{Kind: api.MiddleCache, Value: "no-store"},
		{Kind: api.MiddleHost, List: []string{"h"}},
	}
}

// badMiddles are right, but make responses that can't be printed.
func badMiddles() []api.Middle {
	return []api.Middle{
		{Kind: api.MiddleAdd, Name: "Content-Length", Value: "1"},
		{Kind: api.MiddleAdd, Name: "connection", Value: "close"},
		{Kind: api.MiddleAdd, Name: "Transfer-Encoding", Value: "chunked"},
	}
}

func someHandlers() []api.Handler {
	return []api.Handler{
		{Kind: api.HandleText, Status: 200, Media: "text/plain", Text: "hello"},
		{Kind: api.HandleText, Status: 200, Media: "text/plain", Text: ""},
		{Kind: api.HandleText, Status: 200, Media: "text/plain", Text: "0123456789012345678901234567890123456789--part0--part1"},
		{Kind: api.HandleText, Status: 203, Media: "text/html", Text: "other"},
		{Kind: api.HandleStatus, Status: 204},
		{Kind: api.HandleStatus, Status: 200},
		{Kind: api.HandleStatus, Status: 304},
		{Kind: api.HandleStatus, Status: 500},
		{Kind: api.HandleRedirect, Status: 302, Text: "/new/{id}?x"},
		{Kind: api.HandleEcho},
		{Kind: api.HandleParams},
		{Kind: api.HandleStatic},
		{Kind: api.HandleStatic, Name: "rest", N: 1},
		{Kind: api.HandleForm, N: 2},
		{Kind: api.HandleCount, Name: "n"},
		{Kind: api.HandleSocket},
	}
}

func someFiles() []api.File {
	return []api.File{
		{Path: "/a", Media: "text/plain", Body: "0123456789", Time: 784111777},
		{Path: "/a/b", Media: "text/plain", Language: "de", Body: "hallo", Time: -1},
		{Path: "/a/b", Media: "text/plain", Language: "en", Body: "hello", Time: 784111776},
		{Path: "/c", Media: "text/html", Coding: "gzip", Body: "", Time: 0},
		{Path: "/d/index.html", Media: "text/html", Body: "<p>", Time: 5},
		{Path: "/e/f", Media: "text/html", Body: "f", Time: -1},
	}
}

// someOf is some elements of a list, in some order, any of them more than once.
func someOf[T any](r *rand.Rand, l []T, most int) []T {
	var some []T
	for range r.IntN(most + 1) {
		some = append(some, l[r.IntN(len(l))])
	}
	return some
}

func oneOf[T any](r *rand.Rand, l ...T) T { return l[r.IntN(len(l))] }

// someConfig is a configuration that is valid.
func someConfig(t *testing.T, r *rand.Rand) api.Config {
	t.Helper()
	c := config.Usual()
	c.Name = oneOf(r, "", "", "s", "the server/1")
	c.Date = oneOf(r, -1, -1, 0, 784111777, -2, -62135596800, 4102444800)
	c.Slash = r.IntN(2) == 0
	c.Requests = oneOf(r, 0, 1, 3)
	c.Middles = someOf(r, someMiddles(), 3)
	if r.IntN(8) == 0 {
		c.Middles = append(c.Middles, oneOf(r, badMiddles()...))
	}
	c.Routes = []api.Route{
		{Methods: []string{"GET"}, Pattern: "/f/*rest", Middles: someOf(r, someMiddles(), 1), Handler: api.Handler{Kind: api.HandleStatic, Name: "rest", N: r.IntN(2)}},
		{Pattern: "/s", Middles: someOf(r, someMiddles(), 1), Handler: api.Handler{Kind: api.HandleSocket}},
		{Pattern: "/t", Middles: []api.Middle{{Kind: api.MiddleAdd, Name: "Accept-Ranges", Value: "bytes"}}, Handler: someHandlers()[r.IntN(3)]},
	}
	patterns := []string{"/", "/a", "/b", "/a/b", "/a/:id", "/:id", "/*rest", "/a/*rest"}
	for _, i := range r.Perm(len(patterns))[:3+r.IntN(len(patterns)-3)] {
		for _, methods := range oneOf(r, [][]string{nil}, [][]string{{"GET"}}, [][]string{{"GET"}, {"HEAD", "PUT"}}, [][]string{{"PUT", "POST"}, {"GET"}, nil}, [][]string{{"OPTIONS", "get"}}) {
			c.Routes = append(c.Routes, api.Route{Methods: methods, Pattern: patterns[i], Middles: someOf(r, someMiddles(), 2), Handler: oneOf(r, someHandlers()...)})
		}
	}
	c.Files = someFiles()[:r.IntN(len(someFiles())+1)]
	if spot, err := config.Check(c); err != api.OK {
		t.Fatalf("%v, %d: %s", spot, err, show(c))
	}
	return c
}

// someFields is fields that have a part in an answer, by their names and values.
func someFields() []api.Field {
	var l []api.Field
	for _, x := range []struct {
		name   string
		values []string
	}{
		{"Range", []string{"bytes=0-1", "bytes=2-", "bytes=-3", "bytes=0-0,-1", "bytes=0-1,1-3, 8-8", "bytes=0-", "bytes=99-", "items=1-2", "bytes=0-0,2-2,4-4,6-6,8-8,10-10,12-12,14-14,16-16,18-18,20-20,22-22,24-24,26-26,28-28,30-30", "bytes=0-0,2-2,4-4,6-6,8-8,10-10,12-12,14-14,16-16,18-18,20-20,22-22,24-24,26-26,28-28,30-30,32-32", ""}},
		{"If-Range", []string{"\"own\"", "W/\"own\"", "\"ed2db7e4006b0efc-10\"", "Sun, 06 Nov 1994 08:49:37 GMT", "x"}},
		{"If-Match", []string{"*", "\"own\"", "\"other\"", "x"}},
		{"If-None-Match", []string{"*", "\"own\"", "\"other\"", "W/\"own\", \"x\""}},
		{"If-Modified-Since", []string{"Sun, 06 Nov 1994 08:49:37 GMT", "Sun, 06 Nov 1994 08:49:36 GMT", "Sunday, 06-Nov-94 08:49:37 GMT", "x"}},
		{"If-Unmodified-Since", []string{"Sun, 06 Nov 1994 08:49:37 GMT", "Sat, 05 Nov 1994 08:49:37 GMT"}},
		{"Connection", []string{"close", "keep-alive", "Upgrade", "x, Close", "\""}},
		{"Authorization", []string{"Basic dTpw", "Basic dTpx"}},
		{"Origin", []string{"o", "other"}},
		{"Access-Control-Request-Method", []string{"PUT", "a\r\nb"}},
		{"Host", []string{"h", "i"}},
		{"Upgrade", []string{"websocket"}},
		{"Sec-WebSocket-Version", []string{"13"}},
		{"Sec-WebSocket-Key", []string{"dGhlIHNhbXBsZSBub25jZQ=="}},
		{"Accept-Language", []string{"en", "fr"}},
		{"Cookie", []string{"n=41"}},
		{"Content-Type", []string{"application/x-www-form-urlencoded"}},
		{"Content-Length", []string{"3"}},
	} {
		for _, value := range x.values {
			l = append(l, api.Field{Name: x.name, Value: value})
		}
	}
	return l
}

// someRequest is a request: mostly one to GET that is right, some an upgrade, and some of any kind.
func someRequest(r *rand.Rand) api.Request {
	q := api.Request{
		Method: "GET",
		Target: oneOf(r, "/", "/a", "/b", "/a/b", "/a/c", "/a/", "/t", "/t", "/t?q", "/f/a", "/f/a", "/f/a/b", "/f/a/b", "/f/d", "/f/d/", "/f/e", "/f/e/", "/f/c", "/c/./../a", "/%61", "/a/%2F?x=1&y", "/b/?", "/b/?q=/x", "http://h/a", "HTTP://I:80/a/b?q", "http://h"),
		Major:  1, Minor: 1,
		Fields: someOf(r, someFields(), 4),
		Body:   oneOf(r, "", "", "", "a=1", "body", "\x00\r\n"),
	}
	switch r.IntN(8) {
	case 0:
		q.Method = oneOf(r, "HEAD", "PUT", "POST", "OPTIONS", "CONNECT", "get", "")
	case 1:
		q.Target = oneOf(r, "*", "h:80", "/%4", "a b", "", "/a#")
		q.Method = oneOf(r, "GET", "OPTIONS", "CONNECT")
	case 2:
		q.Major, q.Minor = oneOf(r, 1, 1, 0, 2), oneOf(r, 0, 0, 1, 2, -1)
	case 3:
		q.Target = "/s"
		q.Fields = fields("Upgrade", "websocket", "Connection", oneOf(r, "Upgrade", "close, upgrade"), "Sec-WebSocket-Version", oneOf(r, "13", "13", "8"), "Sec-WebSocket-Key", "dGhlIHNhbXBsZSBub25jZQ==")
	}
	return q
}

// someNumber is the place of a request on its connection, or any other number.
func someNumber(r *rand.Rand) int { return oneOf(r, 1, 1, 2, 3, 4, 0, -1, 1<<62) }

func numbered(l []api.Field, count int) []api.Field {
	for i := range count {
		l = append(l, api.Field{Name: fmt.Sprint("N", i), Value: "v"})
	}
	return l
}
