package parse_test

import (
	"math"
	"strings"
	"testing"

	"turnpike/api"
	"turnpike/parse"
)

func whole(l api.Limits, s string) outcome {
	r, n, f, k := parse.Whole(l, s)
	return outcome{r, n, f, k}
}

func checkWhole(t *testing.T, l api.Limits, s string, want outcome) {
	t.Helper()
	if got := whole(l, s); !got.equal(want) {
		t.Errorf("Whole(%v, %.300q): %v; want %v", l, s, got, want)
	}
}

// checkFault holds Whole against a fault that is met at the byte that it tells, with nothing behind that byte and with a whole request there.
func checkFault(t *testing.T, l api.Limits, s string, status int, err api.Errno, at int) {
	t.Helper()
	if len(s) <= at {
		t.Fatalf("%.300q has no byte at %d", s, at)
	}
	want := failed(status, err, at)
	checkWhole(t, l, s[:at+1], want)
	checkWhole(t, l, s[:at+1]+lines("||GET / HTTP/1.0||"), want)
	checkWhole(t, l, s[:at], more(s[:at]))
}

func usual() api.Limits {
	return api.Limits{Target: 8000, Head: 16384, Fields: 100, Body: 1048576}
}

// narrow is the usual limits after a change.
func narrow(change func(l *api.Limits)) api.Limits {
	l := usual()
	change(&l)
	return l
}

func done(r api.Request, n int) outcome { return outcome{request: r, n: n, kind: api.ParseDone} }

func request(method, target string, minor int, fields ...api.Field) api.Request {
	return api.Request{Method: method, Target: target, Major: 1, Minor: minor, Fields: fields}
}

// with is a request with a body and trailers.
func with(r api.Request, body string, trailers ...api.Field) api.Request {
	r.Body, r.Trailers = body, trailers
	return r
}

var hostA = api.Field{Name: "Host", Value: "a"}

// 11.1: each limit at its edges, and past them.
func TestCheck(t *testing.T) {
	for _, p := range []struct {
		least, most int
		set         func(l *api.Limits, n int)
	}{
		{1, 65536, func(l *api.Limits, n int) { l.Target = n }},
		{2, 1048576, func(l *api.Limits, n int) { l.Head = n }},
		{0, 100, func(l *api.Limits, n int) { l.Fields = n }},
		{0, 1073741824, func(l *api.Limits, n int) { l.Body = n }},
	} {
		for n, want := range map[int]api.Errno{
			p.least: api.OK, p.most: api.OK, p.least + 1: api.OK, p.most - 1: api.OK,
			p.least - 1: api.ErrLimits, p.most + 1: api.ErrLimits, -1: api.ErrLimits, math.MinInt: api.ErrLimits, math.MaxInt: api.ErrLimits,
		} {
			l := usual()
			p.set(&l, n)
			if err := parse.Check(l); err != want {
				t.Errorf("Check(%v): %d; want %d", l, err, want)
			}
			made, err := parse.New(l)
			if err != want || (made != nil) != (want == api.OK) {
				t.Errorf("New(%v): %v, %d; want the error %d", l, made != nil, err, want)
			}
			s := lines("GET / HTTP/1.0||")
			if want == api.OK {
				checkWhole(t, l, s, done(request("GET", "/", 0), len(s)))
			} else {
				checkWhole(t, l, s, outcome{fault: api.Fault{Err: api.ErrLimits}, kind: api.ParseFault})
			}
		}
	}
	if err := parse.Check(api.Limits{}); err != api.ErrLimits {
		t.Error("Check of nothing:", err)
	}
}

// 11.1: the usual limits, which are right.
func TestUsual(t *testing.T) {
	if l := parse.Usual(); l != usual() || parse.Check(l) != api.OK {
		t.Error("Usual:", l, parse.Check(l))
	}
}

// 11.1: methods.
func TestIsMethod(t *testing.T) {
	for s, want := range map[string]bool{
		"GET": true, "get": true, "M-SEARCH": true, "!#$%&'*+-.^_`|~": true, "0": true, strings.Repeat("A", 24): true,
		"": false, " ": false, "GET ": false, " GET": false, "G T": false, "G@T": false, "G\x00": false, "\xc3\xa9": false, strings.Repeat("A", 25): false, "G\r": false,
	} {
		if got := parse.IsMethod(s); got != want {
			t.Errorf("IsMethod(%q): %v", s, got)
		}
	}
	for c := range 256 {
		s := string([]byte{byte(c)})
		if got, want := parse.IsMethod(s), front(methodSigns, s) == 1; got != want {
			t.Errorf("IsMethod(%q): %v", s, got)
		}
	}
}

// The chapter's examples, all of them.
func TestExamples(t *testing.T) {
	checkWhole(t, parse.Usual(), lines("GET / HTTP/1.1|Host: a||x"), done(request("GET", "/", 1, hostA), 27))
	checkWhole(t, parse.Usual(), lines("GET / HTTP/1.1|Host: a|"), more(lines("GET / HTTP/1.1|Host: a|")))
	checkWhole(t, parse.Usual(), lines("GET / HTTP/1.1|Host: a|x"), more(lines("GET / HTTP/1.1|Host: a|x")))

	checkFault(t, usual(), lines("GET / HTTP/1.1||"), 400, api.ErrHosts, 17)
	checkWhole(t, usual(), lines("GET / HTTP/1.0||"), done(request("GET", "/", 0), 18))
	checkFault(t, usual(), lines("GET / HTTP/2.0|"), 505, api.ErrVersion, 15)
	checkFault(t, usual(), "GET  / HTTP/1.1", 400, api.ErrLine, 4)
	checkFault(t, usual(), "G@T", 400, api.ErrMethod, 1)
	checkFault(t, usual(), "GET /\n", 400, api.ErrLine, 5)

	checkWhole(t, usual(), lines("||GET / HTTP/1.0||"), done(request("GET", "/", 0), 22))
	put := with(request("PUT", "/", 0, api.Field{Name: "Content-Length", Value: "3"}), "abc")
	checkWhole(t, usual(), lines("PUT / HTTP/1.0|Content-Length: 3||abcd"), done(put, 40))

	checkFault(t, usual(), lines("GET /a%4 HTTP/1.1|"), 400, api.ErrPercent, 18)
	checkWhole(t, usual(), lines("GET / HTTP/1.1|A b: c|"), failedOf(400, api.ErrName, 23, 17))

	p := newParser(t, usual())
	checkFeed(t, p, lines("PUT / HTTP/1.1|Host: a|Expect: 100-continue|Content-Length: 1||"), 68)
	if p.State() != api.StateBody || !p.Waits() {
		t.Error("State, Waits:", p.State(), p.Waits())
	}
	checkFeed(t, p, "x", 1)
	if p.State() != api.StateDone || p.Waits() {
		t.Error("State, Waits:", p.State(), p.Waits())
	}
}

// 11.2: limits that are not right are told alone, whatever the text is.
func TestWholeWrongLimits(t *testing.T) {
	for _, s := range []string{"", "G@T", lines("GET / HTTP/1.0||"), lines("GET / HTTP/9.9|")} {
		for _, l := range []api.Limits{{}, narrow(func(l *api.Limits) { l.Body = -1 }), narrow(func(l *api.Limits) { l.Head = 1 })} {
			checkWhole(t, l, s, outcome{fault: api.Fault{Err: api.ErrLimits}, kind: api.ParseFault})
		}
	}
}
