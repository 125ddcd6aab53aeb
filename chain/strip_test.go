package chain_test

import (
	"testing"

	"turnpike/api"
	"turnpike/chain"
)

// checkStripped runs a chain that takes something off the front of a target's path.
func checkStripped(t *testing.T, front, from, to string) {
	t.Helper()
	r := api.Request{Method: "PUT", Target: from, Major: 1, Minor: 1, Fields: fields("A", "1"), Body: "b", Trailers: fields("T", "2")}
	asked := r
	asked.Target = to
	checkOn(t, []api.Middle{{Kind: api.MiddleStrip, Value: front}}, r, asked, thanks(), thanks())
}

// 19.2: example 2; all else of the target stays as it stands.
func TestStrip(t *testing.T) {
	checkStripped(t, "/a", "/a/b", "/b")
	checkStripped(t, "/a", "/a", "/")
	checkStripped(t, "/a", "/a/", "/")
	checkStripped(t, "/a", "/a?q", "/?q")
	checkStripped(t, "/a", "/a/?/a", "/?/a")
	checkStripped(t, "/a", "/a/a?a=/a", "/a?a=/a")
	checkStripped(t, "/a", "/a//b", "//b")
	checkStripped(t, "/a", "/a/../%7e/%2f?%41", "/../%7e/%2f?%41")
	checkStripped(t, "/a/b", "/a/b", "/")
	checkStripped(t, "/a/b", "/a/b/c?", "/c?")
	checkStripped(t, "//a", "//a/b", "/b")
	checkStripped(t, "/a%20b", "/a%20b/c", "/c")
}

// 19.2: in an absolute target the path stands behind the authority, whatever that is.
func TestStripAbsolute(t *testing.T) {
	checkStripped(t, "/a", "http://h/a/b", "http://h/b")
	checkStripped(t, "/a", "http://h/a", "http://h/")
	checkStripped(t, "/a", "HtTp://A:80/a?q", "HtTp://A:80/?q")
	checkStripped(t, "/a", "http://a/a", "http://a/")
	checkStripped(t, "/a", "http://a/a/a?/a", "http://a/a?/a")
	checkStripped(t, "/a", "http://[::1]:/a/?", "http://[::1]:/?")
	checkStripped(t, "/a/b", "http://a/a/b//c", "http://a//c")
}

// 19.2: any other target is answered 404, also one that is none.
func TestNotStripped(t *testing.T) {
	refused := plain(404, "Not Found")
	m := api.Middle{Kind: api.MiddleStrip, Value: "/a"}
	for _, s := range []string{"/ab", "/", "/A", "/A/b", "/b/a", "//a", "/%61", "/%61/b", "/./a", "/a%2Fb", "/ab/a", "/a.", "", "a", "a/b", "*",
		"/a b", "/a/%", "/a/%4", "/a#", "/a/?#", "/a?%", "http://h", "http://h?/a", "http://h/", "http://h/ab", "http://a", "http://h/b/a", "http:///a", "http://h h/a", "https://h/a", "ftp://h/a", "http://h/a/%zz"} {
		checkAnswered(t, m, api.Request{Method: "GET", Target: s}, refused)
	}
	checkAnswered(t, m, api.Request{Method: "OPTIONS", Target: "*"}, refused)
	checkAnswered(t, m, api.Request{Method: "CONNECT", Target: "a:1"}, refused)
	checkAnswered(t, m, api.Request{Method: "CONNECT", Target: "/a"}, refused)
	checkAnswered(t, m, api.Request{Method: "CONNECT", Target: "http://h/a"}, refused)
	checkOn(t, []api.Middle{m}, api.Request{Method: "OPTIONS", Target: "/a/x"}, api.Request{Method: "OPTIONS", Target: "/x"}, thanks(), thanks())
}

// 19.2: what is taken off is taken off one behind the other, and what stands behind sees the rest.
func TestStripTwice(t *testing.T) {
	a, b := api.Middle{Kind: api.MiddleStrip, Value: "/a"}, api.Middle{Kind: api.MiddleStrip, Value: "/b/c"}
	r := api.Request{Method: "GET", Target: "http://h/a/b/c/d?e"}
	asked := r
	asked.Target = "http://h/d?e"
	checkOn(t, []api.Middle{a, b}, r, asked, thanks(), thanks())
	h := &handler{}
	if x := chain.Run([]api.Middle{b, a}, r, h.answer); !same(x, plain(404, "Not Found")) || len(h.asked) > 0 {
		t.Error(show(x))
	}
}

// 19.2: all short targets against the model.
func TestStripByModel(t *testing.T) {
	for _, front := range []string{"/a", "/a/b", "//a", "/%2F"} {
		m := []api.Middle{{Kind: api.MiddleStrip, Value: front}}
		for s := range texts([]string{"/", "/a", "a", "b", "?", "%2F", "%", "http://a", "//"}, 5) {
			for _, method := range []string{"GET", "CONNECT"} {
				r := api.Request{Method: method, Target: s}
				got, want := &handler{response: thanks()}, &handler{response: thanks()}
				x, y := chain.Run(m, r, got.answer), modelRun(m, r, want.answer)
				if !same(x, y) || len(got.asked) != len(want.asked) || len(got.asked) == 1 && !sameRequest(got.asked[0], want.asked[0]) {
					t.Fatalf("Run(%q, %q): %s, asked %s", front, s, show(x), show(got.asked))
				}
			}
		}
	}
}
