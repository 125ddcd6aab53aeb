package chain_test

import (
	"fmt"
	"slices"
	"strings"
	"testing"

	"turnpike/api"
)

// checkChanged runs an element on a response.
func checkChanged(t *testing.T, m api.Middle, r api.Request, answer, want api.Response) {
	t.Helper()
	checkOn(t, []api.Middle{m}, r, r, answer, want)
}

func answerOf(status int, l ...string) api.Response {
	return api.Response{Status: status, Fields: fields(l...)}
}

// 19.2: a field is added behind all, also where one of that name is there.
func TestAdd(t *testing.T) {
	check := func(name, value string, answer, want api.Response) {
		t.Helper()
		checkChanged(t, api.Middle{Kind: api.MiddleAdd, Name: name, Value: value}, api.Request{Method: "GET"}, answer, want)
	}
	check("X", "1", answerOf(200), answerOf(200, "X", "1"))
	check("x-Y", "", answerOf(0), answerOf(0, "x-Y", ""))
	check("A", "3", thanks(), thanks("A", "3"))
	check("Content-Length", "9", answerOf(500, "content-length", "8"), answerOf(500, "content-length", "8", "Content-Length", "9"))
	check(strings.Repeat("n", 200), "v", answerOf(204), answerOf(204, strings.Repeat("n", 200), "v"))
	check("X", "a\tb \xff", answerOf(200, "\n", "\r"), answerOf(200, "\n", "\r", "X", "a\tb \xff"))
}

// 19.2: a field takes the place of all of its name, in whatever case, and stands behind all.
func TestSet(t *testing.T) {
	check := func(name, value string, answer, want api.Response) {
		t.Helper()
		checkChanged(t, api.Middle{Kind: api.MiddleSet, Name: name, Value: value}, api.Request{Method: "GET"}, answer, want)
	}
	check("X", "2", answerOf(200), answerOf(200, "X", "2"))
	check("X", "2", answerOf(200, "X", "1"), answerOf(200, "X", "2"))
	check("x", "", answerOf(200, "X", "1", "B", "3", "x", "4", "XX", "5"), answerOf(200, "B", "3", "XX", "5", "x", ""))
	check("a-B", "2", answerOf(404, "A-b", "1", "a", "3", "A-B", "4", "ab", "5"), answerOf(404, "a", "3", "ab", "5", "a-B", "2"))
}

// 19.2: all fields of a name go, in whatever case, and no others.
func TestDrop(t *testing.T) {
	check := func(name string, answer, want api.Response) {
		t.Helper()
		checkChanged(t, api.Middle{Kind: api.MiddleDrop, Name: name}, api.Request{Method: "GET"}, answer, want)
	}
	check("X", answerOf(200), answerOf(200))
	check("X", answerOf(200, "Y", "1", "XX", "2", "", "3"), answerOf(200, "Y", "1", "XX", "2", "", "3"))
	check("sERVER", answerOf(200, "Server", "1", "A", "2", "SERVER", "3"), answerOf(200, "A", "2"))
	check("X", answerOf(200, "x", "1", "X", "2"), answerOf(200))
}

// 19.2: lists of more fields than a message may have are changed as others are.
func TestManyFields(t *testing.T) {
	var many []string
	for i := range 300 {
		many = append(many, fmt.Sprint("N", i%150), fmt.Sprint(i))
	}
	var fewer []string
	for i := 0; i < len(many); i += 2 {
		if many[i] != "N7" {
			fewer = append(fewer, many[i], many[i+1])
		}
	}
	r := api.Request{Method: "GET"}
	behind := func(l []string, f ...string) api.Response { return answerOf(200, append(slices.Clone(l), f...)...) }
	checkChanged(t, api.Middle{Kind: api.MiddleAdd, Name: "N7", Value: "v"}, r, behind(many), behind(many, "N7", "v"))
	checkChanged(t, api.Middle{Kind: api.MiddleSet, Name: "n7", Value: "v"}, r, behind(many), behind(fewer, "n7", "v"))
	checkChanged(t, api.Middle{Kind: api.MiddleDrop, Name: "n7"}, r, behind(many), behind(fewer))
	checkChanged(t, api.Middle{Kind: api.MiddleCache, Value: "v"}, r, behind(many), behind(many, "Cache-Control", "v"))
	checkChanged(t, api.Middle{Kind: api.MiddleOrigin, List: list("o")}, r, behind(many), behind(many, "Vary", "Origin"))
}

// 19.2: the responses that may be kept are told for how long, unless they say it themselves.
func TestCache(t *testing.T) {
	m := api.Middle{Kind: api.MiddleCache, Value: "max-age=60, public"}
	for _, method := range []string{"GET", "HEAD", "get", "Head", "POST", "OPTIONS", "", "GET "} {
		for _, status := range []int{-200, 0, 100, 199, 200, 201, 204, 206, 301, 303, 304, 305, 404, 500} {
			read := method == "GET" || method == "HEAD"
			r := api.Request{Method: method}
			want := answerOf(status, "A", "1")
			if read && (status == 200 || status == 304) {
				want = answerOf(status, "A", "1", "Cache-Control", "max-age=60, public")
			}
			checkChanged(t, m, r, answerOf(status, "A", "1"), want)
			for _, name := range []string{"Cache-Control", "cache-CONTROL"} {
				own := answerOf(status, "A", "1", name, "", "B", "2")
				checkChanged(t, m, r, own, own)
			}
		}
	}
	r := api.Request{Method: "GET", Fields: fields("Cache-Control", "no-cache")}
	checkChanged(t, m, r, answerOf(200, "Cache", "1", "Control", "2"), answerOf(200, "Cache", "1", "Control", "2", "Cache-Control", "max-age=60, public"))
}
