package chain_test

import (
	"encoding/base64"
	"math"
	"strings"
	"testing"

	"turnpike/api"
)

// 19.2: example 3; a method that is not listed is answered, HEAD and OPTIONS as others, case counts.
func TestMethods(t *testing.T) {
	m := api.Middle{Kind: api.MiddleMethods, List: list("GET")}
	refused := plain(405, "Method Not Allowed", "Allow", "GET")
	checkThrough(t, m, api.Request{Method: "GET"})
	for _, method := range []string{"HEAD", "OPTIONS", "get", "GE", "GETS", "", " GET", "POST"} {
		checkAnswered(t, m, api.Request{Method: method, Target: "/", Body: "b"}, refused)
	}
	m.List = list("POST", "OPTIONS", "get", "A")
	for _, method := range m.List {
		checkThrough(t, m, api.Request{Method: method})
	}
	for _, method := range []string{"GET", "post", "HEAD", "POST, OPTIONS"} {
		checkAnswered(t, m, api.Request{Method: method}, plain(405, "Method Not Allowed", "Allow", "POST, OPTIONS, get, A"))
	}
}

// 19.2: a body of just as many bytes as may be is let through, one more is not; fields have no part in it.
func TestBody(t *testing.T) {
	refused := plain(413, "Content Too Large")
	for _, n := range []int{0, 1, 2, 5, 1000} {
		m := api.Middle{Kind: api.MiddleBody, N: n}
		checkThrough(t, m, api.Request{})
		checkThrough(t, m, api.Request{Body: strings.Repeat("b", n), Fields: fields("Content-Length", "9999")})
		checkAnswered(t, m, api.Request{Body: strings.Repeat("b", n+1), Fields: fields("Content-Length", "0")}, refused)
		checkAnswered(t, m, api.Request{Method: "GET", Body: strings.Repeat("é", n/2+1)}, refused)
	}
	checkThrough(t, api.Middle{Kind: api.MiddleBody, N: math.MaxInt}, api.Request{Body: strings.Repeat("b", 1<<20)})
}

func authorized(l ...string) api.Request {
	r := api.Request{Method: "GET", Target: "/"}
	for _, value := range l {
		r.Fields = append(r.Fields, api.Field{Name: "Authorization", Value: value})
	}
	return r
}

func encoded(s string) string { return base64.StdEncoding.EncodeToString([]byte(s)) }

// 19.2: example 4; who is known by one field of the right form is let through.
func TestBasic(t *testing.T) {
	m := api.Middle{Kind: api.MiddleBasic, Name: "r", List: list("u:p")}
	for _, value := range []string{"basic dTpw", "Basic dTpw", "BASIC dTpw", "bAsIc   dTpw"} {
		checkThrough(t, m, authorized(value))
	}
	checkThrough(t, m, api.Request{Fields: fields("A", "1", "aUTHORIZATION", "Basic dTpw", "Proxy-Authorization", "x")})
	refused := plain(401, "Unauthorized", "WWW-Authenticate", `Basic realm="r", charset="UTF-8"`)
	for _, value := range []string{"", " ", "Basic", "Basic ", "BasicdTpw", "Basic\tdTpw", "Basic \tdTpw", " Basic dTpw", "Basic dTpw ", "Basic dTpw x", "Basic dTpw, Basic dTpw",
		"Bearer dTpw", "Basics dTpw", "Basic xdTpw", "Basic =dTpw", "dTpw", "Basic u:p", "Basic dTpw=", "Basic dTpx", "Basic DTPW", "Basic \"dTpw\"", "Basic " + encoded("u:q"), "Basic " + encoded("u:p "), "Basic " + encoded("U:p"), "Basic " + encoded("u"), "Basic " + encoded("")} {
		checkAnswered(t, m, authorized(value), refused)
	}
	checkAnswered(t, m, authorized(), refused)
	checkAnswered(t, m, authorized("Basic dTpw", "Basic dTpw"), refused)
	checkAnswered(t, m, authorized("Basic dTpw", ""), refused)
	checkAnswered(t, m, authorized("", "Basic dTpw"), refused)
	checkAnswered(t, m, api.Request{Fields: fields("Proxy-Authorization", "Basic dTpw")}, refused)
	checkAnswered(t, m, api.Request{Trailers: fields("Authorization", "Basic dTpw")}, refused)
}

// 19.2: each of several is known, whatever their bytes are.
func TestBasicOfMany(t *testing.T) {
	m := api.Middle{Kind: api.MiddleBasic, List: list("u:", "u:p:q", "\xff:\xfe", "user name: word ", "a:b", "a:b")}
	for _, login := range m.List {
		checkThrough(t, m, authorized("Basic "+encoded(login)))
	}
	refused := plain(401, "Unauthorized", "WWW-Authenticate", `Basic realm="", charset="UTF-8"`)
	for _, login := range []string{"u", "u:p", "u:q", "\xff:", "user name: word", ":", "a:b:", ""} {
		checkAnswered(t, m, authorized("Basic "+encoded(login)), refused)
	}
	// What is left of the last sign must be 0, as base 64 has it.
	m.List = list("u:p1")
	checkThrough(t, m, authorized("Basic dTpwMQ=="))
	checkAnswered(t, m, authorized("Basic dTpwMR=="), refused)
	checkAnswered(t, m, authorized("Basic dTpwMQ"), refused)
}

// 19.2: a realm is quoted.
func TestRealm(t *testing.T) {
	check := func(realm, quoted string) {
		t.Helper()
		m := api.Middle{Kind: api.MiddleBasic, Name: realm, List: list("u:p")}
		checkAnswered(t, m, api.Request{}, plain(401, "Unauthorized", "WWW-Authenticate", "Basic realm="+quoted+`, charset="UTF-8"`))
	}
	check("", `""`)
	check("a b", `"a b"`)
	check(`a"b\`, `"a\"b\\"`)
	check("\t\xff", "\"\t\xff\"")
	check(strings.Repeat("r", 9000), `"`+strings.Repeat("r", 9000)+`"`)
}

func hosted(target string, l ...string) api.Request {
	r := api.Request{Method: "GET", Target: target}
	for _, value := range l {
		r.Fields = append(r.Fields, api.Field{Name: "Host", Value: value})
	}
	return r
}

// 19.2: the host is the target's, if that is absolute, else that of the one field Host; ports have no part in it.
func TestHost(t *testing.T) {
	m := api.Middle{Kind: api.MiddleHost, List: list("a.b", "[::1]", "c%2f")}
	refused := plain(421, "Misdirected Request")
	for _, value := range []string{"a.b", "A.B", "a.b:80", "a.B:", "[::1]", "[::1]:65535", "c%2F", "C%2f:1"} {
		checkThrough(t, m, hosted("/", value))
		checkThrough(t, m, hosted("http://"+value, "other"))
		checkThrough(t, m, hosted("HTTP://"+value+"/x?y"))
		checkThrough(t, m, hosted("http://"+value+"?", "a.b", "a.b"))
	}
	for _, value := range []string{"", "a", "b", "a.b.", "a.b.c", "x.a.b", "[::2]", "[0::1]", "::1", "a.b:x", "a.b:65536", " a.b", "a.b ", "a.b, a.b", "u@a.b", "*"} {
		checkAnswered(t, m, hosted("/", value), refused)
		checkAnswered(t, m, hosted("http://"+value), refused)
	}
	checkAnswered(t, m, hosted("/"), refused)
	checkAnswered(t, m, hosted("http://other", "a.b"), refused)
	checkAnswered(t, m, hosted("/", "a.b", "a.b"), refused)
	checkAnswered(t, m, hosted("/", "a.b", ""), refused)
	checkThrough(t, m, api.Request{Method: "GET", Target: "/", Fields: fields("X-Host", "x", "hOST", "a.b")})
	checkAnswered(t, m, api.Request{Method: "GET", Target: "/", Trailers: fields("Host", "a.b")}, refused)
}

// 19.2: of all other targets, also those that are none, the field counts.
func TestHostOfOtherTargets(t *testing.T) {
	m := api.Middle{Kind: api.MiddleHost, List: list("a")}
	refused := plain(421, "Misdirected Request")
	for _, x := range [][2]string{{"GET", "*"}, {"OPTIONS", "*"}, {"GET", ""}, {"CONNECT", "b:1"}, {"CONNECT", "http://b/"}, {"GET", "http://b/ "}, {"GET", "http://b/%"}, {"GET", "http://:1"}, {"GET", "https://b/"}, {"GET", "/%"}} {
		r := api.Request{Method: x[0], Target: x[1]}
		checkAnswered(t, m, r, refused)
		r.Fields = fields("Host", "b")
		checkAnswered(t, m, r, refused)
		r.Fields = fields("Host", "a:9")
		checkThrough(t, m, r)
	}
	checkAnswered(t, m, api.Request{Method: "CONNECT", Target: "a:1"}, refused)
	// A colon without a port behind it is let be in a list, but no host has one.
	m.List = list("a:")
	checkAnswered(t, m, hosted("/", "a"), refused)
	checkAnswered(t, m, hosted("http://a:/"), refused)
}
