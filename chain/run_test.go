package chain_test

import (
	"slices"
	"testing"

	"turnpike/api"
	"turnpike/chain"
)

// 19.2: example 1: the first element is the outermost.
func TestOrder(t *testing.T) {
	add, set := api.Middle{Kind: api.MiddleAdd, Name: "X", Value: "1"}, api.Middle{Kind: api.MiddleSet, Name: "X", Value: "2"}
	drop := api.Middle{Kind: api.MiddleDrop, Name: "x"}
	r := api.Request{}
	checkOn(t, []api.Middle{add, set}, r, r, answerOf(200), answerOf(200, "X", "2", "X", "1"))
	checkOn(t, []api.Middle{set, add}, r, r, answerOf(200), answerOf(200, "X", "2"))
	checkOn(t, []api.Middle{add, add, set, drop, add}, r, r, answerOf(200, "X", "0", "Y", "0"), answerOf(200, "Y", "0", "X", "2", "X", "1", "X", "1"))
	checkOn(t, []api.Middle{drop, add}, r, r, answerOf(200, "A", "1"), answerOf(200, "A", "1"))
}

// 19.2: what an element answers goes back through those ahead of it, and those behind it see nothing.
func TestAnsweredWithin(t *testing.T) {
	add := func(name string) api.Middle { return api.Middle{Kind: api.MiddleAdd, Name: name, Value: "1"} }
	l := []api.Middle{add("A"), {Kind: api.MiddleBody, N: 1}, add("B"), {Kind: api.MiddleMethods, List: list("GET")}, add("C")}
	h := &handler{response: answerOf(200, "D", "1")}
	if x := chain.Run(l, api.Request{Method: "PUT", Body: "bb"}, h.answer); !same(x, plain(413, "Content Too Large", "A", "1")) {
		t.Error(show(x))
	}
	if x := chain.Run(l, api.Request{Method: "PUT"}, h.answer); !same(x, plain(405, "Method Not Allowed", "Allow", "GET", "B", "1", "A", "1")) {
		t.Error(show(x))
	}
	if len(h.asked) > 0 {
		t.Error("last was asked")
	}
	r := api.Request{Method: "GET", Body: "b"}
	checkOn(t, l, r, r, answerOf(200, "D", "1"), answerOf(200, "D", "1", "C", "1", "B", "1", "A", "1"))
}

// 19.2: without a last handler 404 stands there, which elements change as another one.
func TestNoLast(t *testing.T) {
	for _, l := range [][]api.Middle{nil, {}, {{}}, {{Kind: api.MiddleBody}}} {
		if x := chain.Run(l, api.Request{Method: "GET"}, nil); !same(x, plain(404, "Not Found")) {
			t.Error(show(l), show(x))
		}
	}
	l := []api.Middle{{Kind: api.MiddleAdd, Name: "X", Value: "1"}, {Kind: api.MiddleDrop, Name: "content-type"}, {Kind: api.MiddleStrip, Value: "/a"}}
	if x := chain.Run(l, api.Request{Method: "GET", Target: "/a"}, nil); !same(x, api.Response{Status: 404, Fields: fields("X", "1"), Body: "Not Found\n"}) {
		t.Error(show(x))
	}
}

// 19.4: a request that no element changes and a response that none touches are handed through as they are, right or not.
func TestUntouched(t *testing.T) {
	r := api.Request{Method: "a b", Target: "\x00", Major: -1, Minor: 7, Fields: fields("", "\n", "A", "1", "a", "2"), Body: "\xff\r\n", Trailers: fields("T", "3", "", "")}
	for _, answer := range []api.Response{{}, thanks(), {Status: -1, Reason: "\n", Fields: fields("", "\x00", "Content-Length", "x"), Body: "b"}} {
		for _, l := range [][]api.Middle{nil, {}, {{}, {Kind: 11}}, {{Kind: api.MiddleBody, N: 3}, {Kind: api.MiddleCache, Value: "v"}, {Kind: api.MiddleDrop, Name: "none"}, {Kind: api.MiddleMethods, List: list("")}}} {
			checkOn(t, l, r, r, answer, answer)
		}
	}
}

// 19.2: an element that is not right does nothing, where the same but right does something.
func TestWrongElements(t *testing.T) {
	r := api.Request{Method: "PUT", Target: "/b", Body: "body", Fields: fields("Origin", "y")}
	for _, m := range rightOnes()[1:] {
		if h := (&handler{response: thanks()}); m.Kind != api.MiddleMethods && m.Kind != api.MiddleCache && same(chain.Run([]api.Middle{m}, r, h.answer), thanks()) {
			t.Errorf("%s does nothing", show(m))
		}
		for _, spoil := range []func(*api.Middle){
			func(m *api.Middle) { m.Kind += 1 << 32 },
			func(m *api.Middle) { m.Name += "\n" },
			func(m *api.Middle) { m.Value += "\n" },
			func(m *api.Middle) { m.List = append(slices.Clone(m.List), "\n") },
			func(m *api.Middle) { m.N = -1 },
		} {
			wrong := m
			spoil(&wrong)
			checkThrough(t, wrong, r)
			checkOn(t, []api.Middle{wrong, {Kind: api.MiddleAdd, Name: "X", Value: "1"}, wrong}, r, r, thanks(), thanks("X", "1"))
		}
	}
}

// someElements is elements of all kinds, right ones and others, so that chains of them go all ways.
func someElements() []api.Middle {
	return append(rightOnes(),
		api.Middle{Kind: api.MiddleAdd, Name: "Cache-Control", Value: "x"},
		api.Middle{Kind: api.MiddleSet, Name: "vary", Value: "y"},
		api.Middle{Kind: api.MiddleDrop, Name: "Allow"},
		api.Middle{Kind: api.MiddleMethods, List: list("GET", "OPTIONS")},
		api.Middle{Kind: api.MiddleBody},
		api.Middle{Kind: api.MiddleStrip, Value: "/a/b"},
		api.Middle{Kind: api.MiddleStrip, Value: "/a/"},
		api.Middle{Kind: api.MiddleBasic, Name: "\"", List: list("u:q", "u:p")},
		api.Middle{Kind: api.MiddleOrigin, List: list("*")},
		api.Middle{Kind: api.MiddleOrigin, List: list("*", "x")},
		api.Middle{Kind: api.MiddleCache, Value: "max-age=1"},
		api.Middle{Kind: api.MiddleHost, List: list("A")},
		api.Middle{Kind: api.MiddleHost, List: list("g")})
}

// someRequests is requests that elements of that row let through, change or answer.
func someRequests() []api.Request {
	return []api.Request{
		{},
		{Method: "GET", Target: "/a/b", Fields: fields("Host", "h", "Authorization", "Basic dTpw", "Origin", "y")},
		{Method: "GET", Target: "http://G/a/a/b?q", Fields: fields("Host", "h"), Body: "b"},
		{Method: "PUT", Target: "/a", Fields: fields("Host", "H:1", "Origin", "z"), Body: "body", Trailers: fields("T", "1")},
		{Method: "OPTIONS", Target: "*", Fields: fields("Origin", "y", requestMethod, "PUT", "host", "g")},
		{Method: "OPTIONS", Target: "/a", Fields: fields("Origin", "q", requestMethod, "PUT", "Authorization", "basic  dTpw", "Host", "h")},
		{Method: "HEAD", Target: "/a/a/a", Fields: fields("Host", "g", "Host", "h")},
	}
}

// checkByModel runs a chain and the model of it on all requests and some answers.
func checkByModel(t *testing.T, l []api.Middle) {
	t.Helper()
	for _, r := range someRequests() {
		for _, answer := range []api.Response{thanks(), answerOf(304, "Cache-Control", "z", "Allow", "A"), answerOf(404)} {
			got, want := &handler{response: answer}, &handler{response: answer}
			x, y := chain.Run(l, r, got.answer), modelRun(l, r, want.answer)
			if !same(x, y) || !slices.EqualFunc(got.asked, want.asked, sameRequest) {
				t.Fatalf("Run(%s, %s): %s, wanted %s; asked %s, wanted %s", show(l), show(r), show(x), show(y), show(got.asked), show(want.asked))
			}
		}
		if x := chain.Run(l, r, nil); !same(x, modelRun(l, r, nil)) {
			t.Fatalf("Run(%s, %s): %s", show(l), show(r), show(x))
		}
	}
}

// 19.2: all chains of at most three elements against the model.
func TestRunByModel(t *testing.T) {
	all := someElements()
	checkByModel(t, nil)
	for _, a := range all {
		checkByModel(t, []api.Middle{a})
		for _, b := range all {
			checkByModel(t, []api.Middle{a, b})
			for _, c := range all {
				checkByModel(t, []api.Middle{a, b, c})
			}
		}
	}
}

// 19.4: two chains one behind the other are one, of which the second stands behind the first.
func TestOneBehindTheOther(t *testing.T) {
	all := someElements()
	for i, a := range all {
		for j, b := range all {
			l := []api.Middle{a, all[(i+j)%len(all)], b, all[(i*j)%len(all)]}
			for _, r := range someRequests() {
				whole := &handler{response: thanks()}
				want := chain.Run(l, r, whole.answer)
				for cut := range len(l) + 1 {
					h := &handler{response: thanks()}
					x := chain.Run(l[:cut], r, func(r api.Request) api.Response { return chain.Run(l[cut:], r, h.answer) })
					if !same(x, want) || !slices.EqualFunc(h.asked, whole.asked, sameRequest) {
						t.Fatalf("Run(%s, %s), cut at %d: %s, wanted %s", show(l), show(r), cut, show(x), show(want))
					}
				}
			}
		}
	}
}
