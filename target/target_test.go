package target_test

import (
	"math"
	"strings"
	"testing"

	"turnpike/api"
	"turnpike/target"
)

var methods = []string{"GET", "CONNECT", "OPTIONS", "connect", "options", ""}

func parse(method, s string) parsed {
	t, at, err := target.Parse(method, s)
	return parsed{t, at, err}
}

func checkParse(t *testing.T, method, s string, want parsed) {
	t.Helper()
	if got := parse(method, s); got != want {
		t.Errorf("Parse(%q, %q): %+v; want %+v", method, s, got, want)
	}
}

func at(place int, err api.Errno) parsed { return parsed{at: place, err: err} }

// 5.1, the examples 1 and 2.
func TestParseTargets(t *testing.T) {
	for _, x := range []struct {
		method, s string
		want      api.Target
	}{
		{"GET", "/a/b?x=1", api.Target{Form: api.FormOrigin, Port: -1, Path: "/a/b", Query: "x=1", HasQuery: true}},
		{"GET", "/", api.Target{Form: api.FormOrigin, Port: -1, Path: "/"}},
		{"GET", "/?", api.Target{Form: api.FormOrigin, Port: -1, Path: "/", HasQuery: true}},
		{"GET", "/??", api.Target{Form: api.FormOrigin, Port: -1, Path: "/", Query: "?", HasQuery: true}},
		{"OPTIONS", "/%2e/%41", api.Target{Form: api.FormOrigin, Port: -1, Path: "/%2e/%41"}},
		{"GET", "//a:b@c//", api.Target{Form: api.FormOrigin, Port: -1, Path: "//a:b@c//"}},
		{"GET", "HTTP://A.b:80", api.Target{Form: api.FormAbsolute, Host: "a.b", Port: 80, Path: "/"}},
		{"GET", "http://a:?q", api.Target{Form: api.FormAbsolute, Host: "a", Port: -1, Path: "/", Query: "q", HasQuery: true}},
		{"OPTIONS", "hTtP://%4FX/A?B", api.Target{Form: api.FormAbsolute, Host: "%4fx", Port: -1, Path: "/A", Query: "B", HasQuery: true}},
		{"GET", "http://[::A]:00001?", api.Target{Form: api.FormAbsolute, Host: "[::a]", Port: 1, Path: "/", HasQuery: true}},
		{"GET", "http://a?/:", api.Target{Form: api.FormAbsolute, Host: "a", Port: -1, Path: "/", Query: "/:", HasQuery: true}},
		{"CONNECT", "a.b:443", api.Target{Form: api.FormAuthority, Host: "a.b", Port: 443}},
		{"CONNECT", "*:0", api.Target{Form: api.FormAuthority, Host: "*", Port: 0}},
		{"OPTIONS", "*", api.Target{Form: api.FormAsterisk, Port: -1}},
	} {
		checkParse(t, x.method, x.s, parsed{target: x.want})
	}
}

// 5.1, the examples 2 and 3.
func TestParseFaults(t *testing.T) {
	for _, x := range []struct {
		method, s string
		want      parsed
	}{
		{"CONNECT", "a.b", at(0, api.ErrAuthority)}, {"CONNECT", "a.b:", at(0, api.ErrAuthority)}, {"CONNECT", "*", at(0, api.ErrAuthority)},
		{"CONNECT", "/", at(0, api.ErrAuthority)}, {"CONNECT", "http://a:1/", at(0, api.ErrAuthority)}, {"CONNECT", "a:1/", at(0, api.ErrAuthority)}, {"CONNECT", "a%4:1", at(0, api.ErrAuthority)},
		{"GET", "*", at(0, api.ErrForm)}, {"options", "*", at(0, api.ErrForm)}, {"OPTIONS", "**", at(0, api.ErrForm)},
		{"GET", "", at(0, api.ErrForm)}, {"CONNECT", "", at(0, api.ErrForm)}, {"OPTIONS", "", at(0, api.ErrForm)},
		{"GET", "ftp://a/", at(0, api.ErrForm)}, {"GET", "https://a/", at(0, api.ErrForm)}, {"GET", "http:/", at(0, api.ErrForm)}, {"connect", "a:1", at(0, api.ErrForm)}, {"GET", "?q", at(0, api.ErrForm)},
		{"GET", "/a b", at(2, api.ErrPath)}, {"GET", "/a%4", at(2, api.ErrPercent)}, {"GET", "/a#", at(2, api.ErrPath)}, {"GET", "/?#", at(2, api.ErrQuery)},
		{"GET", "/%4?x", at(1, api.ErrPercent)}, {"GET", "/%?41", at(1, api.ErrPercent)}, {"GET", "/?%", at(2, api.ErrPercent)}, {"GET", "/%%41", at(1, api.ErrPercent)},
		{"GET", "/ %", at(1, api.ErrPath)}, {"GET", "/% ", at(1, api.ErrPercent)}, {"GET", "/ ?%", at(1, api.ErrPath)}, {"GET", "/? %", at(2, api.ErrQuery)},
		{"GET", "http://a b/", at(7, api.ErrAuthority)}, {"GET", "http:///", at(7, api.ErrAuthority)}, {"GET", "http://", at(7, api.ErrAuthority)}, {"GET", "http://?", at(7, api.ErrAuthority)},
		{"GET", "http://a%4/ ", at(7, api.ErrAuthority)}, {"GET", "http://a@b/", at(7, api.ErrAuthority)}, {"GET", "http://a#/", at(7, api.ErrAuthority)}, {"GET", "http://[::1?]/", at(7, api.ErrAuthority)}, {"GET", "http://a:65536/ ", at(7, api.ErrAuthority)},
		{"GET", "http://a/ ", at(9, api.ErrPath)}, {"GET", "http://a:1/%4", at(11, api.ErrPercent)}, {"GET", "http://a? ", at(9, api.ErrQuery)}, {"GET", "http://a/b?c%", at(12, api.ErrPercent)},
	} {
		checkParse(t, x.method, x.s, x.want)
	}
}

// 5.1: each byte at each place.
func TestParseBytes(t *testing.T) {
	for c := range 256 {
		b := string([]byte{byte(c)})
		name := strings.Contains(unreserved+delimiters, b)
		if path := name || strings.Contains(":@/", b); path != (parse("GET", "/a"+b).err == api.OK) && b != "?" {
			t.Errorf("%q in a path", b)
		}
		if query := name || strings.Contains(":@/?", b); query != (parse("GET", "/?"+b+"a").err == api.OK) {
			t.Errorf("%q in a query", b)
		}
		if name != (parse("CONNECT", b+":1").err == api.OK) {
			t.Errorf("%q in a name", b)
		}
		for _, method := range methods {
			for _, s := range []string{b, "/" + b, "/a" + b + "c", "/%" + b + "1", "/%1" + b, "/?" + b, "/?a" + b + "?", "/?%" + b + "a", b + "ttp://a", "http" + b + "//a",
				"http://" + b, "http://a" + b, "http://a" + b + "80", "http://a:" + b, "http://[::" + b + "]", "http://[::1]" + b, "http://a/" + b, "http://a?" + b, "a" + b + ":8", "a:8" + b} {
				checkParse(t, method, s, modelParse(method, s))
			}
		}
	}
}

// 5.1 and 5.2: all texts of some pieces are answered as the model does, and each target comes out of its print again.
func TestParseModel(t *testing.T) {
	pieces := []string{"/", "?", ":", "%", "41", "a", "Z", "http://", "[::1]", "*", " ", "#", "@", "\xff"}
	for s := range texts(pieces, 4) {
		for _, front := range []string{"", "http://a"} {
			for _, method := range methods[:3] {
				got := parse(method, front+s)
				if want := modelParse(method, front+s); got != want {
					t.Fatalf("Parse(%q, %q): %+v; want %+v", method, front+s, got, want)
				}
				if got.err == api.OK {
					checkPrint(t, got.target, true)
				}
			}
		}
	}
}

func checkPrint(t *testing.T, u api.Target, good bool) {
	t.Helper()
	s, err := target.Print(u)
	if !good {
		if s != "" || err != api.ErrForm {
			t.Errorf("Print(%+v): %q, %d; want ErrForm", u, s, err)
		}
		return
	}
	if s != modelPrint(u) || err != api.OK {
		t.Errorf("Print(%+v): %q, %d; want %q", u, s, err, modelPrint(u))
	}
	method := map[int]string{api.FormAuthority: "CONNECT", api.FormAsterisk: "OPTIONS"}[u.Form]
	if got := parse(method, s); got != (parsed{target: u}) {
		t.Errorf("Parse(%q, %q): %+v; want %+v", method, s, got, u)
	}
}

func TestPrintForms(t *testing.T) {
	for want, u := range map[string]api.Target{
		"/a?":          {Form: api.FormOrigin, Port: -1, Path: "/a", HasQuery: true},
		"/a/../%2f":    {Form: api.FormOrigin, Port: -1, Path: "/a/../%2f"},
		"http://a:0/":  {Form: api.FormAbsolute, Host: "a", Path: "/"},
		"http://a/?b":  {Form: api.FormAbsolute, Host: "a", Port: -1, Path: "/", Query: "b", HasQuery: true},
		"[::1]:65535":  {Form: api.FormAuthority, Host: "[::1]", Port: 65535},
		"http://a//b?": {Form: api.FormAbsolute, Host: "a", Port: -1, Path: "//b", HasQuery: true},
		"*":            {Form: api.FormAsterisk, Port: -1},
	} {
		if s, err := target.Print(u); s != want || err != api.OK {
			t.Errorf("Print(%+v): %q, %d; want %q", u, s, err, want)
		}
	}
}

// 5.2: targets of all sorts of parts, right and wrong.
func TestPrintParts(t *testing.T) {
	hosts := []string{"", "a", "A", "a:1", "[::1]", "[::A]", "[::1", "a/b", "a?b", "a b", "%4", "%4f", "%4F", "\xff"}
	ports := []int{math.MinInt, -2, -1, 0, 80, 65535, 65536, math.MaxInt}
	paths := []string{"", "/", "/a%2f", "a", "/a?b", "?", "/ ", "/%4", "/#", "*", "http://a/", "//a"}
	queries := []string{"", "x", "?/", "#", "%", "%20", "&=+"}
	good := 0
	for form := -1; form <= 6; form++ {
		for _, host := range hosts {
			for _, port := range ports {
				for _, path := range paths {
					for i, query := range append(queries, queries...) {
						u := api.Target{Form: form, Host: host, Port: port, Path: path, Query: query, HasQuery: i < len(queries)}
						if modelTarget(u) {
							good++
						}
						checkPrint(t, u, modelTarget(u))
					}
				}
			}
		}
	}
	if want := 3*6 + 3*4*3*6 + 3*3 + 1; good != want {
		t.Errorf("%d targets are right, not %d", good, want)
	}
}
