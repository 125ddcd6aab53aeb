package app_test

import (
	"math"
	"slices"
	"strings"
	"testing"

	"turnpike/api"
)

// how is what is told of an answer beside its bytes.
type how struct {
	closes, upgrades bool
	route            int
}

var (
	goesOn = how{route: -1}
	ends   = how{closes: true, route: -1}
)

func of(route int) how     { return how{route: route} }
func lastOf(route int) how { return how{closes: true, route: route} }

// checkNth holds the answer to the n-th request of a connection against what goes over the line, and the model with it.
func checkNth(t *testing.T, text, request string, n int, want string, told how) {
	t.Helper()
	c := configured(t, text)
	a, r := madeOf(t, c), ask(request)
	s, x := a.Bytes(r, n)
	if s != wire(want) || told != (how{x.Close, x.Upgrade, x.Route}) {
		t.Errorf("%q of %q, %d:\n%q, %v\nwanted\n%q, %v", request, text, n, s, how{x.Close, x.Upgrade, x.Route}, wire(want), told)
	}
	checkModel(t, a, c, r, n)
}

func check(t *testing.T, text, request, want string, told how) {
	t.Helper()
	checkNth(t, text, request, 1, want, told)
}

// plainly is a plain response as it goes over the line, with lines ahead of its length and behind it.
func plainly(status, body, ahead, behind string) string {
	lengths := map[string]string{"OK": "3", "Bad Request": "12", "Unauthorized": "13", "Not Found": "10", "Method Not Allowed": "19", "Not Acceptable": "15", "Precondition Failed": "20", "Range Not Satisfiable": "22", "Misdirected Request": "20", "Content Too Large": "18", "Permanent Redirect": "19", "Found": "6", "Moved Permanently": "18", "Upgrade Required": "17", "Internal Server Error": "22", "Not Implemented": "16", "Unsupported Media Type": "23"}
	return "HTTP/1.1 " + status + " " + body + "|Content-Type: text/plain; charset=utf-8|" + ahead + "Content-Length: " + lengths[body] + "|" + behind + "|" + body + "~"
}

const hello = "HTTP/1.1 200 OK|Content-Type: text/plain|Content-Length: 5||hello"

// 21.2: the chapter's first two examples.
func TestExamples(t *testing.T) {
	const closing = "HTTP/1.1 200 OK|Content-Type: text/plain|Content-Length: 5|Connection: close||hello"
	checkNth(t, example, "GET /a HTTP/1.1|Host: h||", 1, hello, of(0))
	checkNth(t, example, "GET /a HTTP/1.1|Host: h||", 3, closing, lastOf(0))
	checkNth(t, example, "GET /a HTTP/1.0||", 1, closing, lastOf(0))
	check(t, example, "POST /a HTTP/1.1", plainly("405", "Method Not Allowed", "Allow: GET, HEAD, OPTIONS, PUT|", ""), goesOn)
	check(t, example, "OPTIONS /a HTTP/1.1", "HTTP/1.1 204 No Content|Allow: GET, HEAD, OPTIONS, PUT||", goesOn)
	check(t, example, "GET /b HTTP/1.1", plainly("404", "Not Found", "", ""), goesOn)
	check(t, example, "OPTIONS * HTTP/1.1", "HTTP/1.1 204 No Content|Allow: GET, HEAD, OPTIONS, PUT||", goesOn)
	check(t, example, "CONNECT a:1 HTTP/1.1", plainly("501", "Not Implemented", "", ""), goesOn)
	check(t, example, "GET http://a/./a HTTP/1.1", hello, of(0))
	check(t, example, "PUT /a HTTP/1.1", "HTTP/1.1 204 No Content||", of(1))
}

// 21.2: the examples of the whole.
func TestWholeExamples(t *testing.T) {
	check(t, wholeExample, "GET /a HTTP/1.1|Host: h||", hello, of(0))
	check(t, wholeExample, "HEAD /a HTTP/1.1|Host: h||", strings.TrimSuffix(hello, "hello"), of(0))
	check(t, wholeExample, "GET /a HTTP/1.0|Connection: keep-alive||", "HTTP/1.1 200 OK|Content-Type: text/plain|Content-Length: 5|Connection: keep-alive||hello", of(0))
	check(t, wholeExample, "GET /b HTTP/1.1|Host: h||", plainly("404", "Not Found", "", ""), goesOn)
	check(t, wholeExample, "DELETE /a HTTP/1.1|Host: h||", plainly("405", "Method Not Allowed", "Allow: GET, HEAD, OPTIONS|", ""), goesOn)
	check(t, wholeExample, "OPTIONS /a HTTP/1.1|Host: h||", "HTTP/1.1 204 No Content|Allow: GET, HEAD, OPTIONS||", goesOn)
	check(t, wholeExample, "GET /s HTTP/1.1|Host: h|Upgrade: websocket|Connection: Upgrade|Sec-WebSocket-Version: 13|Sec-WebSocket-Key: dGhlIHNhbXBsZSBub25jZQ==||",
		"HTTP/1.1 101 Switching Protocols|Upgrade: websocket|Connection: Upgrade|Sec-WebSocket-Accept: s3pPLMBiTxaQ9kYGzzhZRbK+xOo=||", how{upgrades: true, route: 2})
}

// 21.2: a target that is refused is answered 400 whatever the chain says, and closes; what a server adds is added.
func TestRefusedTargets(t *testing.T) {
	for _, line := range []string{"GET /%4", "GET ", "GET a", "GET /a#", "GET *", "GET ftp://h/", "CONNECT /a", "CONNECT a", "OPTIONS **", " /a%"} {
		check(t, example, line+" HTTP/1.1", plainly("400", "Bad Request", "", "Connection: close|"), ends)
		check(t, "name s; date 0; middle add X 1; middle basic r u:p; route /a { echo; }", line+" HTTP/1.1",
			plainly("400", "Bad Request", "Date: Thu, 01 Jan 1970 00:00:00 GMT|Server: s|", "Connection: close|"), ends)
	}
	check(t, "middle add Content-Length 1;", "GET /% HTTP/1.1", plainly("400", "Bad Request", "", "Connection: close|"), ends)
}

// 21.2: routes are asked for a path in normal form; what is handed to a handler is the target as it stands.
func TestPaths(t *testing.T) {
	const routes = "route GET /a/b { echo; } route GET /p/:x/*y { params; } route GET /~ { status 200; }"
	echo := func(target string, length string) string {
		return "HTTP/1.1 200 OK|Content-Type: text/plain; charset=utf-8|Content-Length: " + length + "||GET " + target + "~~"
	}
	check(t, routes, "GET /a/b HTTP/1.1", echo("/a/b", "10"), of(0))
	check(t, routes, "GET /x/../%61/./b?q HTTP/1.1", echo("/x/../%61/./b?q", "21"), of(0))
	check(t, routes, "GET HTTP://H:1/a/b? HTTP/1.1", echo("HTTP://H:1/a/b?", "21"), of(0))
	check(t, routes, "GET /%7E HTTP/1.1", plainly("200", "OK", "", ""), of(2))
	check(t, routes, "GET /a/b/ HTTP/1.1", plainly("404", "Not Found", "", ""), goesOn)
	check(t, routes, "GET /p/%2f%41/%62/../c?d=%65 HTTP/1.1",
		"HTTP/1.1 200 OK|Content-Type: text/plain; charset=utf-8|Content-Length: 31||path x=%2FA~path y=c~query d=e~", of(1))
	check(t, routes, "GET http://h HTTP/1.1", plainly("404", "Not Found", "", ""), goesOn)
	check(t, "route / { status 200; }", "GET http://h HTTP/1.1", plainly("200", "OK", "", ""), of(0))
}

// 21.2: a handler of files without a name goes by the target's path as it stands, and a slash more is told of that.
func TestStaticPaths(t *testing.T) {
	const text = "route GET /*r { static \"\" 0; } file /d/e/f { media a/b; body f; }"
	check(t, text, "GET /d/./%65/f HTTP/1.1",
		"HTTP/1.1 200 OK|Content-Type: a/b|ETag: \"85d388cdfcbd7ef7-1\"|Accept-Ranges: bytes|Content-Length: 1||f", of(0))
	check(t, text, "GET /x/../d/%65?q=/ HTTP/1.1", plainly("301", "Moved Permanently", "Location: /x/../d/%65/?q=/|", ""), of(0))
}

// 21.2: the target * is answered by the methods of all routes, behind the chain; the name of a host is not.
func TestNoPaths(t *testing.T) {
	const routes = "route GET /a { echo; } route PUT /b { echo; } route /c { echo; } route M ! /c { echo; }"
	check(t, routes, "OPTIONS * HTTP/1.1", "HTTP/1.1 204 No Content|Allow: !, GET, HEAD, M, OPTIONS, PUT||", goesOn)
	check(t, "", "OPTIONS * HTTP/1.1", "HTTP/1.1 204 No Content|Allow: OPTIONS||", goesOn)
	check(t, "name s; middle add X 1;"+routes, "OPTIONS * HTTP/1.1", "HTTP/1.1 204 No Content|Allow: !, GET, HEAD, M, OPTIONS, PUT|X: 1|Server: s||", goesOn)
	check(t, "middle methods GET;", "OPTIONS * HTTP/1.1", plainly("405", "Method Not Allowed", "Allow: GET|", ""), goesOn)
	check(t, "route CONNECT /a { echo; } route /a { echo; } middle add X 1;", "CONNECT a:1 HTTP/1.1", plainly("501", "Not Implemented", "X: 1|", ""), goesOn)
	check(t, "middle strip /a;", "CONNECT a:1 HTTP/1.1", plainly("404", "Not Found", "", ""), goesOn)
}

// 21.2: what a path and a method come to, where there is no route.
func TestNoRoutes(t *testing.T) {
	const routes = "route GET /a { echo; } route PUT /a { echo; } route POST /b/ { echo; } route /all { echo; }"
	check(t, routes, "DELETE /a HTTP/1.1", plainly("405", "Method Not Allowed", "Allow: GET, HEAD, OPTIONS, PUT|", ""), goesOn)
	check(t, routes, "get /a HTTP/1.1", plainly("405", "Method Not Allowed", "Allow: GET, HEAD, OPTIONS, PUT|", ""), goesOn)
	check(t, routes, "OPTIONS /b/ HTTP/1.1", "HTTP/1.1 204 No Content|Allow: OPTIONS, POST||", goesOn)
	check(t, routes, "GET /a/ HTTP/1.1", plainly("404", "Not Found", "", ""), goesOn)
	check(t, "slash;"+routes, "GET /a/ HTTP/1.1", plainly("308", "Permanent Redirect", "Location: /a|", ""), goesOn)
	check(t, "slash;"+routes, "PATCH /x/%2e%2E/%62?? HTTP/1.1", plainly("308", "Permanent Redirect", "Location: /b/??|", ""), goesOn)
	check(t, "slash;"+routes, "OPTIONS http://h/b?q=1 HTTP/1.1", plainly("308", "Permanent Redirect", "Location: /b/?q=1|", ""), goesOn)
	check(t, "slash;"+routes, "GET /a/? HTTP/1.1", plainly("308", "Permanent Redirect", "Location: /a?|", ""), goesOn)
	check(t, "slash;"+routes, "GET /c HTTP/1.1", plainly("404", "Not Found", "", ""), goesOn)
	check(t, "slash;"+routes, "BREW /all HTTP/1.1", "HTTP/1.1 200 OK|Content-Type: text/plain; charset=utf-8|Content-Length: 11||BREW /all~~", of(3))
	check(t, "slash;"+routes, "OPTIONS /all HTTP/1.1", "HTTP/1.1 200 OK|Content-Type: text/plain; charset=utf-8|Content-Length: 14||OPTIONS /all~~", of(3))
}

// 21.2: the server's chain stands around all that is answered, and may answer itself; then no route is told.
func TestChains(t *testing.T) {
	const text = "middle add X 1; middle basic r u:p; middle strip /v; slash; route GET /a { middle add Y 2; text 200 text/plain hello; } route /e { echo; }"
	check(t, text, "GET /v/a HTTP/1.1", plainly("401", "Unauthorized", "WWW-Authenticate: Basic realm=\"r\", charset=\"UTF-8\"|X: 1|", ""), goesOn)
	check(t, text, "GET /a HTTP/1.1|Authorization: Basic dTpw||", plainly("404", "Not Found", "X: 1|", ""), goesOn)
	check(t, text, "GET /v/b HTTP/1.1|Authorization: Basic dTpw||", plainly("404", "Not Found", "X: 1|", ""), goesOn)
	check(t, text, "GET /v/a/ HTTP/1.1|Authorization: Basic dTpw||", plainly("308", "Permanent Redirect", "Location: /a|X: 1|", ""), goesOn)
	check(t, text, "PUT /v/a HTTP/1.1|Authorization: Basic dTpw||", plainly("405", "Method Not Allowed", "Allow: GET, HEAD, OPTIONS|X: 1|", ""), goesOn)
	check(t, text, "OPTIONS /v/a HTTP/1.1|Authorization: Basic dTpw||", "HTTP/1.1 204 No Content|Allow: GET, HEAD, OPTIONS|X: 1||", goesOn)
	check(t, text, "GET /v/a HTTP/1.1|Authorization: Basic dTpw||", "HTTP/1.1 200 OK|Content-Type: text/plain|Y: 2|X: 1|Content-Length: 5||hello", of(0))
	check(t, text, "GET /v/e?q HTTP/1.1|Authorization: Basic dTpw||b", "HTTP/1.1 200 OK|Content-Type: text/plain; charset=utf-8|X: 1|Content-Length: 37||GET /e?q~Authorization: Basic dTpw~~b", of(1))
	check(t, "middle body 2; route /e { echo; }", "PUT /e HTTP/1.1||abc", plainly("413", "Content Too Large", "", "Connection: close|"), ends)
	check(t, "middle host h;", "GET /e HTTP/1.1|Host: i||", plainly("421", "Misdirected Request", "", ""), goesOn)
}

// 21.2: a route's chain stands around its handler alone; a route is told also if its chain answers.
func TestRouteChains(t *testing.T) {
	const text = "route GET /a { echo; } route GET /b/:x/*y { middle add X 1; middle strip /b; middle basic r u:p; params; } route GET /c { middle body 0; middle strip /x; echo; }" +
		"route GET /s/*r { middle strip /s; static \"\" 0; } file /f { media a/b; body f; }"
	check(t, text, "GET /a HTTP/1.1", "HTTP/1.1 200 OK|Content-Type: text/plain; charset=utf-8|Content-Length: 8||GET /a~~", of(0))
	check(t, text, "GET /b/1/2 HTTP/1.1", plainly("401", "Unauthorized", "WWW-Authenticate: Basic realm=\"r\", charset=\"UTF-8\"|X: 1|", ""), of(1))
	check(t, text, "GET /b/1/2?z HTTP/1.1|Authorization: Basic dTpw||", "HTTP/1.1 200 OK|Content-Type: text/plain; charset=utf-8|X: 1|Content-Length: 26||path x=1~path y=2~query z~", of(1))
	check(t, text, "GET /c HTTP/1.1||b", plainly("413", "Content Too Large", "", "Connection: close|"), lastOf(2))
	check(t, text, "GET /c HTTP/1.1", plainly("404", "Not Found", "", ""), of(2))
	check(t, text, "GET /s/f HTTP/1.1", "HTTP/1.1 200 OK|Content-Type: a/b|ETag: \"85d388cdfcbd7ef7-1\"|Accept-Ranges: bytes|Content-Length: 1||f", of(3))
	check(t, "middle strip /v; route /v/a { middle strip /v; echo; }", "GET /v/v/a HTTP/1.1", "HTTP/1.1 200 OK|Content-Type: text/plain; charset=utf-8|Content-Length: 8||GET /a~~", of(0))
}

// 21.2: what a server adds stands behind all fields, unless one of that name is there.
func TestAdded(t *testing.T) {
	const route = "route GET /a { text 200 text/plain hello; } route GET /b { status 204; }"
	with := func(added string) string { return strings.Replace(hello, "Content-Length", added+"Content-Length", 1) }
	check(t, "name \"s/1 x\";"+route, "GET /a HTTP/1.1", with("Server: s/1 x|"), of(0))
	check(t, "date 0;"+route, "GET /a HTTP/1.1", with("Date: Thu, 01 Jan 1970 00:00:00 GMT|"), of(0))
	check(t, "date -2;"+route, "GET /a HTTP/1.1", with("Date: Wed, 31 Dec 1969 23:59:58 GMT|"), of(0))
	check(t, "date -1;"+route, "GET /a HTTP/1.1", hello, of(0))
	check(t, "name s; date 784111777;"+route, "GET /b HTTP/1.1", "HTTP/1.1 204 No Content|Date: Sun, 06 Nov 1994 08:49:37 GMT|Server: s||", of(1))
	check(t, "name s; date 0; middle add X 1; middle add sERVER \"\"; "+route, "GET /a HTTP/1.1", with("sERVER:|X: 1|Date: Thu, 01 Jan 1970 00:00:00 GMT|"), of(0))
	check(t, "name s; date 0; middle add DATE now; "+route, "GET /a HTTP/1.1", with("DATE: now|Server: s|"), of(0))
	check(t, "middle add Date a; middle add Server b; middle add Server c;"+route, "GET /a HTTP/1.1", with("Server: c|Server: b|Date: a|"), of(0))
	check(t, "name s;"+route, "GET /a HTTP/1.1|If-None-Match: *||", "HTTP/1.1 304 Not Modified|Server: s||", of(0))
	check(t, "name s;"+route, "GET /a HTTP/1.1|If-Match: \"x\"||", plainly("412", "Precondition Failed", "Server: s|", ""), of(0))
}

// 21.2: a connection closes behind a response if the request says so, as its version asks.
func TestPersists(t *testing.T) {
	for _, x := range []struct {
		lines       string
		old, closes bool
	}{
		{"HTTP/1.1", false, false},
		{"HTTP/1.1|Connection: close||", false, true},
		{"HTTP/1.1|connection: a, CLOSE||", false, true},
		{"HTTP/1.1|Connection: keep-alive, close||", false, true},
		{"HTTP/1.1|Connection: a|Connection: close||", false, true},
		{"HTTP/1.1|Connection: closed||", false, false},
		{"HTTP/1.1|Connection: \"||", false, true},
		{"HTTP/1.1|Close: close||", false, false},
		{"HTTP/1.0", true, true},
		{"HTTP/1.0|Connection: Keep-Alive||", true, false},
		{"HTTP/1.0|Connection: keep-alive, close||", true, true},
		{"HTTP/1.0|Connection: x||", true, true},
		{"HTTP/2.0", true, true},
		{"HTTP/0.0|Connection: keep-alive||", true, false},
		{"HTTP/0.9", false, false},
		{"HTTP/3.1", false, false},
		{"HTTP/1.-1", false, false},
		{"HTTP/1.-1|Connection: keep-alive||", false, false},
	} {
		line := ""
		switch {
		case x.closes:
			line = "Connection: close|"
		case x.old:
			line = "Connection: keep-alive|"
		}
		check(t, example, "GET /a "+x.lines, strings.Replace(hello, "5|", "5|"+line, 1), how{closes: x.closes})
	}
}

// 21.2: a connection closes behind the last of its requests, and behind just that.
func TestLastRequest(t *testing.T) {
	for most, closing := range map[string][]int{"0": nil, "1": {1}, "3": {3}, "1073741824": {1073741824}} {
		for _, n := range []int{math.MinInt, -3, -1, 0, 1, 2, 3, 4, 1073741823, 1073741824, 1073741825, math.MaxInt} {
			a := madeOf(t, configured(t, "requests "+most+"; route GET /a { text 200 text/plain hello; }"))
			if x := a.Answer(ask("GET /a HTTP/1.1"), n); x.Close != slices.Contains(closing, n) || x.Response.Status != 200 {
				t.Errorf("request %d of %s: %s", n, most, show(x))
			}
			checkModel(t, a, a.Config(), ask("GET /a HTTP/1.1"), n)
		}
	}
}

// 21.2: a connection closes behind some statuses, and behind no others.
func TestClosingStatuses(t *testing.T) {
	closing := []int{400, 408, 413, 414, 431, 500, 505}
	c := configured(t, "route GET /a { status 200; }")
	for status := 200; status < 600; status++ {
		c.Routes[0].Handler.Status = status
		a := madeOf(t, c)
		x := a.Answer(ask("GET /a HTTP/1.1"), 1)
		if x.Close != slices.Contains(closing, status) || x.Upgrade || x.Response.Status != status || x.Route != 0 {
			t.Errorf("status %d: %s", status, show(x))
		}
		checkModel(t, a, c, ask("HEAD /a HTTP/1.1"), 1)
	}
}

// 21.2: an upgrade never closes, whatever else says that it should.
func TestUpgrades(t *testing.T) {
	const text = "requests 2; name s; date 0; route /s { middle add X 1; socket; }"
	const upgrade = "|Upgrade: websocket|Connection: close, Upgrade|Sec-WebSocket-Version: 13|Sec-WebSocket-Key: dGhlIHNhbXBsZSBub25jZQ==||"
	const switched = "HTTP/1.1 101 Switching Protocols|Upgrade: websocket|Connection: Upgrade|Sec-WebSocket-Accept: s3pPLMBiTxaQ9kYGzzhZRbK+xOo=|X: 1|Date: Thu, 01 Jan 1970 00:00:00 GMT|Server: s||"
	for _, n := range []int{0, 1, 2, 3} {
		checkNth(t, text, "GET /s HTTP/1.1"+upgrade, n, switched, how{upgrades: true})
	}
	const added = "X: 1|Date: Thu, 01 Jan 1970 00:00:00 GMT|Server: s|"
	check(t, text, "GET /s HTTP/1.0"+upgrade, plainly("400", "Bad Request", added, "Connection: close|"), lastOf(0))
	check(t, text, "PUT /s HTTP/1.1"+upgrade, plainly("400", "Bad Request", added, "Connection: close|"), lastOf(0))
	// A response that upgrades has a Connection of its own, which may stand there; that it can't be printed ends it.
	check(t, "route GET /s { middle add Content-Length 0; socket; }", "GET /s HTTP/1.1"+upgrade, plainly("500", "Internal Server Error", "", "Connection: close|"), lastOf(0))
	// The refusal of an upgrade names a field Connection, which no other response may have.
	check(t, text, "GET /s HTTP/1.1", plainly("500", "Internal Server Error", "Date: Thu, 01 Jan 1970 00:00:00 GMT|Server: s|", "Connection: close|"), lastOf(0))
}

// 21.2: a response that can't be printed is given up for 500 in words, which closes; the route stays told.
func TestNotPrinted(t *testing.T) {
	failure := plainly("500", "Internal Server Error", "", "Connection: close|")
	for _, field := range []string{"Content-Length 5", "content-LENGTH \"\"", "Transfer-Encoding chunked", "connection close"} {
		inner := "route GET /a { middle add " + field + "; text 200 text/plain hello; } route GET /b { echo; }"
		check(t, inner, "GET /a HTTP/1.1", failure, lastOf(0))
		check(t, inner, "HEAD /a HTTP/1.1", strings.TrimSuffix(failure, "Internal Server Error~"), lastOf(0))
		check(t, inner, "GET /a HTTP/1.0|Connection: keep-alive||", failure, lastOf(0))
		check(t, inner, "GET /b HTTP/1.1", "HTTP/1.1 200 OK|Content-Type: text/plain; charset=utf-8|Content-Length: 8||GET /b~~", of(1))
		check(t, "name s; date 0; middle add X 1; middle add "+field+";", "GET /a HTTP/1.1", plainly("500", "Internal Server Error", "Date: Thu, 01 Jan 1970 00:00:00 GMT|Server: s|", "Connection: close|"), ends)
	}
	// What is not sent with 304 does no harm there.
	check(t, "route GET /a { middle add content-length 5; text 200 text/plain hello; }", "GET /a HTTP/1.1|If-None-Match: *||", "HTTP/1.1 304 Not Modified||", of(0))
	// A request's own bytes may be such, too.
	const text = "middle origin 1 \"\" *;"
	check(t, text, "OPTIONS /a HTTP/1.1|Origin: x|Access-Control-Request-Method: a\x00||", failure, ends)
	check(t, "route /:x { redirect 302 \"/{x}\"; }", "GET /"+strings.Repeat("x", 8192)+" HTTP/1.1", failure, lastOf(0))
	check(t, "route /:x { redirect 302 \"/{x}\"; }", "GET /"+strings.Repeat("x", 8191)+" HTTP/1.1", plainly("302", "Found", "Location: /"+strings.Repeat("x", 8191)+"|", ""), of(0))
}

// 21.2, R6: as many fields as a message may have are printed, one more is not: those that are laid behind count.
func TestManyFields(t *testing.T) {
	c := configured(t, "route GET /a { text 200 text/plain hello; }")
	for count, status := range map[int]int{97: 200, 98: 200, 99: 500, 100: 500, 300: 500} {
		c.Middles = nil
		for _, f := range numbered(nil, count) {
			c.Middles = append(c.Middles, api.Middle{Kind: api.MiddleAdd, Name: f.Name, Value: f.Value})
		}
		a := madeOf(t, c)
		if x := a.Answer(ask("GET /a HTTP/1.1"), 1); x.Response.Status != status {
			t.Errorf("%d fields: %s", count+1, show(x))
		}
		checkModel(t, a, c, ask("GET /a HTTP/1.1"), 1)
		checkModel(t, a, c, ask("GET /a HTTP/1.0"), 1)
	}
}

// 21.2: what Answer answers, and what stands as bytes, hang on nothing that was asked ahead.
func TestAnswersAgain(t *testing.T) {
	c := configured(t, busy)
	a := madeOf(t, c)
	requests := []string{"GET /n HTTP/1.1|Cookie: n=4||", "GET /in HTTP/1.1", "GET /f/x.txt HTTP/1.1|Accept-Language: de||", "GET /f/d HTTP/1.1", "POST /form HTTP/1.1|Content-Type: application/x-www-form-urlencoded||a=1", "PUT /u/1/2 HTTP/1.1|Origin: http://o||", "GET /% HTTP/1.1"}
	var told []string
	for round := range 3 {
		for i, request := range requests {
			s, _ := a.Bytes(ask(request), 1)
			if round == 0 {
				told = append(told, s)
			}
			if s != told[i] {
				t.Errorf("%q: %q, then %q", request, told[i], s)
			}
			checkModel(t, a, c, ask(request), 1)
		}
	}
}
