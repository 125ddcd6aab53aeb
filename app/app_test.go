package app_test

import (
	"math"
	"math/rand/v2"
	"reflect"
	"strings"
	"testing"

	"turnpike/api"
	"turnpike/app"
	"turnpike/config"
)

// 21.1: an app is made of each valid configuration, and says it; of no other one.
func TestNew(t *testing.T) {
	for _, text := range []string{"", example, wholeExample, busy} {
		c := configured(t, text)
		if x := madeOf(t, c).Config(); !reflect.DeepEqual(bare(x), bare(c)) {
			t.Errorf("Config of %s: %s", show(c), show(x))
		}
	}
	right := func() api.Config { return configured(t, wholeExample) }
	for name, spoil := range map[string]func(c *api.Config){
		"zero":     func(c *api.Config) { *c = api.Config{} },
		"name":     func(c *api.Config) { c.Name = " s" },
		"date":     func(c *api.Config) { c.Date = math.MaxInt },
		"limits":   func(c *api.Config) { c.Limits.Target = 0 },
		"in":       func(c *api.Config) { c.In = 0 },
		"requests": func(c *api.Config) { c.Requests = -1 },
		"middle":   func(c *api.Config) { c.Middles = append(c.Middles, api.Middle{}) },
		"pattern":  func(c *api.Config) { c.Routes[1].Pattern = "a" },
		"twice":    func(c *api.Config) { c.Routes[1] = c.Routes[0] },
		"names":    func(c *api.Config) { c.Routes[0].Pattern, c.Routes[1].Pattern = "/:a", "/:b" },
		"handler":  func(c *api.Config) { c.Routes[0].Handler.Status = 99 },
		"inner":    func(c *api.Config) { c.Routes[0].Middles = []api.Middle{{Kind: api.MiddleBody, N: -1}} },
		"file":     func(c *api.Config) { c.Files[0].Path = "x" },
		"again":    func(c *api.Config) { c.Files = append(c.Files, c.Files[0]) },
	} {
		c := right()
		spoil(&c)
		if a, err := app.New(c); a != nil || err != api.ErrConfig {
			t.Errorf("New, wrong by its %s: %v, %d", name, a, err)
		}
		if _, err := config.Check(c); err == api.OK {
			t.Errorf("%s is not wrong", name)
		}
	}
}

// 21.1: Config says just what was handed in, whatever that is.
func TestConfig(t *testing.T) {
	r := rand.New(rand.NewPCG(21, 1))
	for range 300 {
		c := someConfig(t, r)
		if x := madeOf(t, c).Config(); !reflect.DeepEqual(bare(x), bare(c)) {
			t.Fatalf("Config of %s: %s", show(c), show(x))
		}
	}
}

// 21.5: a nil app, and one that New did not make, say that the server has failed.
func TestNoApp(t *testing.T) {
	const failure = "HTTP/1.1 500 Internal Server Error|Content-Type: text/plain; charset=utf-8|Content-Length: 22|Connection: close||"
	for _, a := range []*app.App{nil, {}} {
		if c := a.Config(); !reflect.DeepEqual(c, api.Config{}) {
			t.Errorf("Config: %s", show(c))
		}
		want := api.Answer{Response: api.Response{Status: 500, Fields: fields("Content-Type", "text/plain; charset=utf-8"), Body: "Internal Server Error\n"}, Close: true, Route: -1}
		for _, text := range []string{"GET /a HTTP/1.1|Host: h||", "HEAD /a HTTP/1.1||", "GET /a HTTP/1.0|Connection: keep-alive||", "POST * HTTP/3.7||x", "  HTTP/0.0"} {
			for _, n := range []int{math.MinInt, -1, 0, 1, math.MaxInt} {
				r := ask(text)
				says := wire(failure + "Internal Server Error~")
				if r.Method == "HEAD" {
					says = wire(failure)
				}
				if x := a.Answer(r, n); !same(x, want) {
					t.Errorf("Answer(%q): %s", text, show(x))
				}
				if s, x := a.Bytes(r, n); s != says || !same(x, want) {
					t.Errorf("Bytes(%q): %q, %s", text, s, show(x))
				}
				if a.Go(r) {
					t.Errorf("Go(%q): true", text)
				}
			}
		}
		checkFail(t, a, 414, "HTTP/1.1 414 URI Too Long|Content-Type: text/plain; charset=utf-8|Content-Length: 13|Connection: close||URI Too Long~")
		checkFail(t, a, 0, "HTTP/1.1 400 Bad Request|Content-Type: text/plain; charset=utf-8|Content-Length: 12|Connection: close||Bad Request~")
	}
}

func checkFail(t *testing.T, a *app.App, status int, want string) {
	t.Helper()
	for _, f := range []api.Fault{{Status: status}, {Status: status, Err: api.ErrLine, At: 7}, {Status: status, Err: -1, At: -1}} {
		if s := a.Fail(f); s != wire(want) {
			t.Errorf("Fail(%v): %q; wanted %q", f, s, wire(want))
		}
	}
}

// 21.4: a fault is told plainly, and closes; of a status that can't be told, 400 is.
func TestFail(t *testing.T) {
	const bad = "HTTP/1.1 400 Bad Request|Content-Type: text/plain; charset=utf-8|Content-Length: 12|Connection: close||Bad Request~"
	a := madeOf(t, configured(t, example))
	checkFail(t, a, 414, "HTTP/1.1 414 URI Too Long|Content-Type: text/plain; charset=utf-8|Content-Length: 13|Connection: close||URI Too Long~")
	checkFail(t, a, 505, "HTTP/1.1 505 HTTP Version Not Supported|Content-Type: text/plain; charset=utf-8|Content-Length: 27|Connection: close||HTTP Version Not Supported~")
	checkFail(t, a, 400, bad)
	checkFail(t, a, 200, "HTTP/1.1 200 OK|Content-Type: text/plain; charset=utf-8|Content-Length: 3|Connection: close||OK~")
	checkFail(t, a, 599, "HTTP/1.1 599 |Content-Type: text/plain; charset=utf-8|Content-Length: 11|Connection: close||Status 599~")
	checkFail(t, a, 299, "HTTP/1.1 299 |Content-Type: text/plain; charset=utf-8|Content-Length: 11|Connection: close||Status 299~")
	for _, status := range []int{math.MinInt, -404, -1, 0, 1, 99, 100, 101, 199, 204, 304, 600, 1000, math.MaxInt} {
		checkFail(t, a, status, bad)
	}
	for status := -10; status < 700; status++ {
		told := status >= 200 && status < 600 && status != 204 && status != 304
		if s := a.Fail(api.Fault{Status: status}); (s == wire(bad)) == (told && status != 400) {
			t.Errorf("Fail of %d: %q", status, s)
		}
	}
	named := madeOf(t, configured(t, "name s; date 784111777; middle add X 1;"))
	added := "Date: Sun, 06 Nov 1994 08:49:37 GMT|Server: s|"
	checkFail(t, named, 414, "HTTP/1.1 414 URI Too Long|Content-Type: text/plain; charset=utf-8|"+added+"Content-Length: 13|Connection: close||URI Too Long~")
	checkFail(t, named, 99, strings.Replace(bad, "Content-Length", added+"Content-Length", 1))
}

// 21.3: whoever is refused whatever the body says hears no word to go on; the handler is not asked, nor is a precondition.
func TestGo(t *testing.T) {
	check := func(text, request string, want bool) {
		t.Helper()
		c := configured(t, text)
		a, r := madeOf(t, c), ask(request)
		for _, body := range []string{"", strings.Repeat("b", 100)} {
			r.Body = body
			if x := a.Go(r); x != want || modelGo(c, r) != want {
				t.Errorf("Go(%q): %t", request, x)
			}
		}
	}
	check(example, "PUT /a HTTP/1.1", true)
	check(example, "POST /a HTTP/1.1", false)
	check(example, "PUT /b HTTP/1.1", false)
	check(example, "PUT /%4 HTTP/1.1", false)
	check(example, "OPTIONS /a HTTP/1.1", true)
	check(example, "OPTIONS * HTTP/1.1", true)
	check(example, "CONNECT a:1 HTTP/1.1", false)
	check(example, "CONNECT /a HTTP/1.1", false)
	check("slash; route PUT /a { status 204; }", "PUT /a/ HTTP/1.1", true)
	check("route PUT /a { status 204; }", "PUT /a/ HTTP/1.1", false)
	// The handler would say something else.
	for _, handler := range []string{"status 400", "status 404", "status 500", "status 301", "static r 0", "form 1", "socket"} {
		check("route /a { "+handler+"; }", "PUT /a HTTP/1.1", true)
	}
	// Neither a precondition nor what can't be printed has a part.
	check("route GET /a { text 200 a/b x; }", "GET /a HTTP/1.1|If-Match: \"none\"||", true)
	check("middle add Content-Length 1; route PUT /a { status 404; }", "PUT /a HTTP/1.1", true)
	check("requests 1; route PUT /a { echo; }", "PUT /a HTTP/1.0|Connection: close||", true)
	// Chains may refuse, but for a body that is too long.
	check("middle methods GET; route PUT /a { echo; }", "PUT /a HTTP/1.1", false)
	check("middle strip /x; route PUT /a { echo; }", "PUT /x/a HTTP/1.1", true)
	check("middle body 0; route PUT /a { middle body 0; echo; }", "PUT /a HTTP/1.1", true)
	check("route PUT /a { middle basic r u:p; echo; }", "PUT /a HTTP/1.1", false)
	check("route PUT /a { middle basic r u:p; echo; }", "PUT /a HTTP/1.1|Authorization: Basic dTpw||", true)
}
