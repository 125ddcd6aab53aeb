package whole_test

import (
	"strings"
	"testing"

	"turnpike/api"
	"turnpike/whole"
)

func checkFeed(t *testing.T, x *whole.Stream, in, want string) {
	t.Helper()
	if got := x.Feed(lines(in)); got != lines(want) {
		t.Errorf("Feed(%q): %q; want %q", in, got, want)
	}
}

func checkTold(t *testing.T, x *whole.Stream, want api.Outcome) {
	t.Helper()
	want.Out = lines(want.Out)
	if got := x.Outcome(); got != want {
		t.Errorf("the stream tells %+v; want %+v", got, want)
	}
}

// 23.2: each Feed is what is said by its bytes alone.
func TestFeed(t *testing.T) {
	x := whole.New(made(t, chapter))
	if x == nil {
		t.Fatal("no stream")
	}
	checkTold(t, x, api.Outcome{})
	checkFeed(t, x, "", "")
	checkFeed(t, x, "GET /a HTTP/1.1|Ho", "")
	checkTold(t, x, api.Outcome{Used: 19})
	checkFeed(t, x, "st: h||PUT", hello)
	checkTold(t, x, api.Outcome{Out: hello, Requests: 1, Used: 31})
	checkFeed(t, x, " /a HTTP/1.1|Host: h|Expect: 100-continue|Content-Length: 2||", goOn)
	checkFeed(t, x, "a", "")
	checkFeed(t, x, "bGET /a HTTP/1.1|Host: h||GET", noContent+helloCloses)
	done := api.Outcome{Out: hello + goOn + noContent + helloCloses, Closed: true, Requests: 3, Used: 127}
	checkTold(t, x, done)
	checkFeed(t, x, "GET /a HTTP/1.1|Host: h||", "")
	checkTold(t, x, done)
	if !x.End() {
		t.Error("End: false")
	}
	checkTold(t, x, done)
}

// 23.2: the end closes, wherever it comes, and what comes behind it is let go.
func TestEnd(t *testing.T) {
	a := made(t, example)
	for _, in := range []string{"", "|", "G", "GET /a HTTP/1.1|Host: h|", "GET /a HTTP/1.1|Host: h||", "PUT /a HTTP/1.1|Host: h|Content-Length: 9||abc", upgrade, upgrade + "\x81\x85abcd", "BAD|", "GET /a HTTP/1.0||"} {
		x := whole.New(a)
		x.Feed(lines(in))
		want := x.Outcome()
		want.Closed = true
		for range 2 {
			if !x.End() {
				t.Errorf("%q, End: false", in)
			}
			if x.Outcome() != want {
				t.Errorf("%q, ended: %+v; want %+v", in, x.Outcome(), want)
			}
			checkFeed(t, x, "GET /a HTTP/1.1|Host: h||", "")
		}
	}
}

// 23.2: what a stream has told stays as it was, whatever comes behind it.
func TestToldStays(t *testing.T) {
	x := whole.New(made(t, example))
	var said []string
	var told []api.Outcome
	for range 100 {
		said = append(said, x.Feed(lines("GET /a HTTP/1.1|Host: h||")))
		told = append(told, x.Outcome())
	}
	for i := range said {
		if said[i] != lines(hello) || told[i] != (api.Outcome{Out: strings.Repeat(said[0], i+1), Requests: i + 1, Used: 28 * (i + 1)}) {
			t.Fatalf("%d: %q, %+v", i, said[i], told[i])
		}
	}
}

// 23.4: each text that is cut in two or in three, behind any bytes.
func TestCuts(t *testing.T) {
	a := made(t, open)
	in := lines("PUT /e HTTP/1.1|Host: h|Expect: 100-continue|Content-Length: 2||a~GET /e HTTP/1.0||x")
	for i := range len(in) + 1 {
		checkCut(t, a, []string{in[:i], in[i:]})
		for k := i; k <= len(in); k += 3 {
			checkCut(t, a, []string{in[:i], in[i:k], in[k:]})
		}
	}
}
