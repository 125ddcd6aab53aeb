package handle_test

import (
	"strings"
	"testing"

	"turnpike/api"
	"turnpike/handle"
	"turnpike/target"
)

func checkEcho(t *testing.T, r api.Request, want string) {
	t.Helper()
	checkAnswer(t, api.Handler{Kind: api.HandleEcho}, api.Asked{Request: r}, nil, text(want))
}

// 18.2: a request as lines, and its body as it is; its version and trailers are not told.
func TestEcho(t *testing.T) {
	checkEcho(t, api.Request{Method: "PUT", Target: "/x", Fields: fields("A", "1"), Body: "b"}, "PUT /x\nA: 1\n\nb")
	checkEcho(t, api.Request{}, " \n\n")
	checkEcho(t, api.Request{Method: "get", Target: "/%7e/./a?b", Major: 1, Minor: 1, Trailers: fields("T", "1")}, "get /%7e/./a?b\n\n")
	checkEcho(t, api.Request{Method: "GET", Target: "*", Fields: fields("b", "", "A", "1", "b", "2")}, "GET *\nb: \nA: 1\nb: 2\n\n")
	checkEcho(t, api.Request{Method: "M", Target: "t", Body: "\n\x00\xff\r\n"}, "M t\n\n\n\x00\xff\r\n")
}

// 18.2: the target is told as it stands in the request, not as it was read.
func TestEchoTarget(t *testing.T) {
	asked := api.Asked{Request: api.Request{Method: "GET", Target: "http://h/a"}, Target: api.Target{Path: "/b", Query: "q", HasQuery: true}, Params: params("id", "7")}
	checkAnswer(t, api.Handler{Kind: api.HandleEcho}, asked, nil, text("GET http://h/a\n\n"))
}

// 18.4: of requests that are unlike in more than version and trailers the echoes are unlike.
func TestEchoTellsAll(t *testing.T) {
	met := map[string]string{}
	for _, method := range []string{"GET", "PUT"} {
		for _, path := range []string{"/", "/a"} {
			for _, l := range [][]api.Field{nil, fields("A", "1"), fields("A", ""), fields("a", "1"), fields("A", "1", "B", "2"), fields("B", "2", "A", "1")} {
				for _, body := range []string{"", "A: 1", "A: 1\n", "\n", "x"} {
					r := api.Request{Method: method, Target: path, Fields: l, Body: body}
					echo := handle.Answer(api.Handler{Kind: api.HandleEcho}, api.Asked{Request: r}, nil).Body
					if met[echo] != "" {
						t.Fatalf("%q is told of %s and of %s", echo, met[echo], show(r))
					}
					met[echo] = show(r)
				}
			}
		}
	}
}

func checkParams(t *testing.T, a api.Asked, want ...string) {
	t.Helper()
	body := ""
	for _, line := range want {
		body += line + "\n"
	}
	checkAnswer(t, api.Handler{Kind: api.HandleParams}, a, nil, text(body))
}

func query(s string) api.Target {
	return api.Target{Form: api.FormOrigin, Path: "/a", Query: s, HasQuery: true}
}

// 18.2: example 3.
func TestParams(t *testing.T) {
	checkParams(t, api.Asked{Params: params("id", "7"), Target: query("x=1&y")}, "path id=7", "query x=1", "query y")
	checkParams(t, api.Asked{})
	checkParams(t, api.Asked{Target: query("")})
	checkParams(t, api.Asked{Params: params("b", "2", "a", "1", "b", "3")}, "path b=2", "path a=1", "path b=3")
}

// 18.2: values are decoded, and encoded anew; one that can't be decoded is empty.
func TestParamsValues(t *testing.T) {
	checkParams(t, api.Asked{Params: params("a", "%7e%2F", "b", "a b/c", "c", "~é", "d", "")}, "path a=~%2F", "path b=a%20b%2Fc", "path c=~%C3%A9", "path d=")
	checkParams(t, api.Asked{Params: params("a", "%", "b", "x%4", "c", "%zz", "d", "ok")}, "path a=", "path b=", "path c=", "path d=ok")
	checkParams(t, api.Asked{Params: params("a", "+", "b", "%2b")}, "path a=%2B", "path b=%2B")
}

// 18.2: a parameter's name is told as it is.
func TestParamsNames(t *testing.T) {
	checkParams(t, api.Asked{Params: params("%7e b", "1", "", "2")}, "path %7e b=1", "path =2")
}

// 18.2: pairs of the query, with a value and without, names and values encoded; empty pairs are none.
func TestParamsQuery(t *testing.T) {
	checkParams(t, api.Asked{Target: query("a%20b=c+d&&e=&=f&g%26&h=i=j")}, "query a%20b=c%20d", "query e=", "query =f", "query g%26", "query h=i%3Dj")
	checkParams(t, api.Asked{Target: query("&&&")})
}

// 18.2: a query that is none has no pairs; so has a target without one.
func TestParamsNoQuery(t *testing.T) {
	for _, s := range []string{"a=1&b=%", "a b=1", "a=1&%4", "a#", "\xff"} {
		checkParams(t, api.Asked{Params: params("id", "%41"), Target: query(s)}, "path id=A")
	}
	checkParams(t, api.Asked{Target: api.Target{Path: "/a", Query: "a=1"}})
}

// 18.2: all short values and queries against the model.
func TestParamsByModel(t *testing.T) {
	h := api.Handler{Kind: api.HandleParams}
	for s := range texts([]string{"%", "4", "1", "a", "=", "&", "+", "/", "\xff", " "}, 5) {
		a := api.Asked{Params: params("p", s), Target: query(s)}
		if r := handle.Answer(h, a, nil); !same(r, modelAnswer(h, a, nil)) {
			t.Fatalf("of %q: %s", s, show(r))
		}
	}
}

// 18.2: what target tells of a text is what is told here.
func TestParamsOfTargets(t *testing.T) {
	for _, c := range []struct {
		method, s string
		want      []string
	}{
		{"GET", "/a?x=1", []string{"query x=1"}},
		{"GET", "http://h?x=1", []string{"query x=1"}},
		{"GET", "/a?", nil},
		{"GET", "/a", nil},
		{"OPTIONS", "*", nil},
		{"CONNECT", "h:1", nil},
	} {
		to, _, err := target.Parse(c.method, c.s)
		if err != api.OK {
			t.Fatal(c, err)
		}
		checkParams(t, api.Asked{Target: to}, c.want...)
	}
}

// R6: long requests are told whole.
func TestLongEcho(t *testing.T) {
	long := strings.Repeat("x", 1<<20)
	r := api.Request{Method: "POST", Target: "/" + long, Body: long}
	want := "POST /" + long + "\n"
	for range 100 {
		r.Fields = append(r.Fields, api.Field{Name: "A", Value: long[:8192]})
		want += "A: " + long[:8192] + "\n"
	}
	checkEcho(t, r, want+"\n"+long)
}
