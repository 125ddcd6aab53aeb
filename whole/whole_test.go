package whole_test

import (
	"strings"
	"testing"

	"turnpike/api"
	"turnpike/app"
	"turnpike/config"
	"turnpike/whole"
)

// chapter is the configuration of chapter 21's examples.
const chapter = `requests 3;
route GET /a { text 200 text/plain hello; } route PUT /a { status 204; } route GET /f/*r { static r 0; }
file /x.txt { media text/plain; body 0123456789; time 784111777; }`

// example is the configuration of the examples of the whole.
const example = `route GET /a { text 200 text/plain hello; } route GET /f/*r { static r 0; } route /s { socket; }
file /x.txt { media text/plain; body 0123456789; }`

// open lets bodies come, and sends them back.
const open = `body 9; frame 4; target 30; head 200; fields 6;
route /e { echo; } route PUT /p { status 204; } route /s { socket; }
route /l { middle body 3; echo; } route /r { middle basic r u:p; echo; } route /g { status 500; }`

// made is the app of a configuration's text.
func made(t *testing.T, text string) *app.App {
	t.Helper()
	c, at, err := config.Parse(text)
	if err != api.OK {
		t.Fatalf("%s: %d at %d", text, err, at)
	}
	a, err := app.New(c)
	if err != api.OK {
		t.Fatalf("%s: %d", text, err)
	}
	return a
}

// lines is a text in which | stands for a line end, and ~ for a line feed.
func lines(s string) string { return strings.NewReplacer("|", "\r\n", "~", "\n").Replace(s) }

// pieces is a text cut behind each n bytes.
func pieces(s string, n int) []string {
	var l []string
	for ; len(s) > n; s = s[n:] {
		l = append(l, s[:n])
	}
	return append(l, s)
}

// checkCut feeds pieces, and holds what is said, and what is told behind each of them, against the model of what came so far.
func checkCut(t *testing.T, a *app.App, l []string) {
	t.Helper()
	x := whole.New(a)
	all, said := "", ""
	for _, s := range l {
		all += s
		got := x.Feed(s)
		want := modelRun(a, all, false)
		if said+got != want.Out {
			t.Fatalf("%.60q behind %.400q: %q behind %q; want %q", s, all, got, said, want.Out)
		}
		said += got
		for range 2 { // being asked changes nothing
			if o := x.Outcome(); o != want {
				t.Fatalf("%.400q: %+v; want %+v", all, o, want)
			}
		}
	}
	want := modelRun(a, all, true)
	if !want.Closed || !x.End() || x.Outcome() != want {
		t.Fatalf("%.400q, ended: %+v; want %+v", all, x.Outcome(), want)
	}
	if got := x.Feed("GET /a HTTP/1.0\r\n\r\n"); got != "" || !x.End() || x.Outcome() != want {
		t.Fatalf("%.400q, behind its end: %q, %+v; want %+v", all, got, x.Outcome(), want)
	}
}

// checkModel holds all that is said of a text against the model, at once and byte by byte, and is what the model tells.
func checkModel(t *testing.T, a *app.App, in string) api.Outcome {
	t.Helper()
	for _, ended := range []bool{false, true} {
		if got, want := whole.Run(a, in, ended), modelRun(a, in, ended); got != want {
			t.Fatalf("%.400q, %v: %+v; want %+v", in, ended, got, want)
		}
	}
	checkCut(t, a, []string{in})
	checkCut(t, a, []string{"", in, "", "x", in})
	checkCut(t, a, pieces(in, 1))
	return modelRun(a, in, false)
}

// checkRun holds what is said of a text against literal bytes, and all else against the model.
func checkRun(t *testing.T, a *app.App, in string, want api.Outcome) {
	t.Helper()
	in, want.Out = lines(in), lines(want.Out)
	checkModel(t, a, in)
	if got := whole.Run(a, in, false); got != want {
		t.Errorf("Run(%.300q): %+v; want %+v", in, got, want)
	}
	want.Closed = true
	if got := whole.Run(a, in, true); got != want {
		t.Errorf("Run(%.300q, ended): %+v; want %+v", in, got, want)
	}
}

// plain is a response in words as it stands in a line; closing lays Connection: close behind its fields.
func plain(status, words, length string, closing bool) string {
	s := "HTTP/1.1 " + status + " " + words + "|Content-Type: text/plain; charset=utf-8|Content-Length: " + length + "|"
	if closing {
		s += "Connection: close|"
	}
	return s + "|" + words + "~"
}

const (
	hello       = "HTTP/1.1 200 OK|Content-Type: text/plain|Content-Length: 5||hello"
	helloCloses = "HTTP/1.1 200 OK|Content-Type: text/plain|Content-Length: 5|Connection: close||hello"
	goOn        = "HTTP/1.1 100 Continue||"
	noContent   = "HTTP/1.1 204 No Content||"
)

// 23.1: the examples of the chapter.
func TestExamples(t *testing.T) {
	a := made(t, chapter)
	checkRun(t, a, "GET /a HTTP/1.1|Host: h||GET /a", api.Outcome{Out: hello, Requests: 1, Used: 34})
	checkRun(t, a, "GET /a HTTP/1.0||GET /a HTTP/1.0||", api.Outcome{Out: helloCloses, Closed: true, Requests: 1, Used: 19})
	put := "PUT /a HTTP/1.1|Host: h|Expect: 100-continue|Content-Length: 2||"
	n := len(lines(put))
	checkRun(t, a, put, api.Outcome{Out: goOn, Used: n})
	checkRun(t, a, put+"ab", api.Outcome{Out: goOn + noContent, Requests: 1, Used: n + 2})
	post := strings.Replace(put, "PUT", "POST", 1)
	refused := "HTTP/1.1 405 Method Not Allowed|Content-Type: text/plain; charset=utf-8|Allow: GET, HEAD, OPTIONS, PUT|Content-Length: 19||Method Not Allowed~"
	checkRun(t, a, post, api.Outcome{Used: n + 1})
	checkRun(t, a, post+"ab", api.Outcome{Out: refused, Requests: 1, Used: n + 3})
	checkRun(t, a, "BAD|", api.Outcome{Out: plain("400", "Bad Request", "12", true), Closed: true, Used: 4})
}

// 23.1: the examples of the whole.
func TestWholeExamples(t *testing.T) {
	a := made(t, example)
	get := "GET /a HTTP/1.1|Host: h||"
	checkRun(t, a, get, api.Outcome{Out: hello, Requests: 1, Used: 28})
	checkRun(t, a, get+get, api.Outcome{Out: hello + hello, Requests: 2, Used: 56})
	checkRun(t, a, "HEAD /a HTTP/1.1|Host: h||", api.Outcome{Out: strings.TrimSuffix(hello, "hello"), Requests: 1, Used: 29})
	checkRun(t, a, "GET /a HTTP/1.0||", api.Outcome{Out: helloCloses, Closed: true, Requests: 1, Used: 19})
	checkRun(t, a, "GET /a HTTP/1.0|Connection: keep-alive||", api.Outcome{Out: "HTTP/1.1 200 OK|Content-Type: text/plain|Content-Length: 5|Connection: keep-alive||hello", Requests: 1, Used: 43})
	checkRun(t, a, "GET /b HTTP/1.1|Host: h||", api.Outcome{Out: plain("404", "Not Found", "10", false), Requests: 1, Used: 28})
	checkRun(t, a, "DELETE /a HTTP/1.1|Host: h||", api.Outcome{Out: "HTTP/1.1 405 Method Not Allowed|Content-Type: text/plain; charset=utf-8|Allow: GET, HEAD, OPTIONS|Content-Length: 19||Method Not Allowed~", Requests: 1, Used: 31})
	checkRun(t, a, "OPTIONS /a HTTP/1.1|Host: h||", api.Outcome{Out: "HTTP/1.1 204 No Content|Allow: GET, HEAD, OPTIONS||", Requests: 1, Used: 32})
	checkRun(t, a, "GET /a HTTP/3.0|"+get, api.Outcome{Out: plain("505", "HTTP Version Not Supported", "27", true), Closed: true, Used: 17})
	for fields, want := range map[string][]string{
		"Range: bytes=2-4|":    {"HTTP/1.1 206 ", "\r\nContent-Range: bytes 2-4/10\r\n", "\r\n\r\n234"},
		"Range: bytes=0-0,-1|": {"HTTP/1.1 206 ", "\r\nContent-Type: multipart/byteranges; boundary=part0\r\n", "--part0--\r\n"},
		"If-None-Match: * |":   {"HTTP/1.1 304 ", "\r\nETag: ", "\r\n\r\n"},
	} {
		o := checkModel(t, a, lines("GET /f/x.txt HTTP/1.1|Host: h|"+fields+"|"))
		if !strings.HasPrefix(o.Out, want[0]) || !strings.Contains(o.Out, want[1]) || !strings.HasSuffix(o.Out, want[2]) || o.Closed || o.Requests != 1 {
			t.Errorf("%s: %+v", fields, o)
		}
	}
}

const (
	upgrade  = "GET /s HTTP/1.1|Host: h|Upgrade: websocket|Connection: Upgrade|Sec-WebSocket-Version: 13|Sec-WebSocket-Key: dGhlIHNhbXBsZSBub25jZQ==||"
	switched = "HTTP/1.1 101 Switching Protocols|Upgrade: websocket|Connection: Upgrade|Sec-WebSocket-Accept: s3pPLMBiTxaQ9kYGzzhZRbK+xOo=||"
)

// 23.1: behind an upgrade all bytes are a socket's, up to and with the one by which it closes.
func TestUpgrade(t *testing.T) {
	a := made(t, example)
	n := len(lines(upgrade))
	hi := "\x81\x82\x01\x02\x03\x04\x49\x6b"
	checkRun(t, a, upgrade, api.Outcome{Out: switched, Requests: 1, Used: n, Upgraded: true})
	checkRun(t, a, upgrade[:len(upgrade)-1], api.Outcome{Used: n - 2})
	checkRun(t, a, upgrade+hi, api.Outcome{Out: switched + "\x81\x02Hi", Requests: 1, Used: n + 8, Upgraded: true})
	checkRun(t, a, upgrade+hi[:7], api.Outcome{Out: switched, Requests: 1, Used: n + 7, Upgraded: true})
	shut := "\x88\x80\x01\x02\x03\x04"
	checkRun(t, a, upgrade+shut+hi, api.Outcome{Out: switched + "\x88\x00", Closed: true, Requests: 1, Used: n + 6, Upgraded: true})
	checkRun(t, a, upgrade+hi+shut, api.Outcome{Out: switched + "\x81\x02Hi\x88\x00", Closed: true, Requests: 1, Used: n + 14, Upgraded: true})
	checkRun(t, a, upgrade+"GET /a HTTP/1.1||", api.Outcome{Out: switched + "\x88\x02\x03\xea", Closed: true, Requests: 1, Used: n + 2, Upgraded: true})
	checkRun(t, a, upgrade+upgrade, api.Outcome{Out: switched + "\x88\x02\x03\xea", Closed: true, Requests: 1, Used: n + 2, Upgraded: true})
	checkRun(t, a, upgrade+"\x88\x81\x00\x00\x00\x00a"+hi, api.Outcome{Out: switched + "\x88\x02\x03\xea", Closed: true, Requests: 1, Used: n + 7, Upgraded: true})
	get := "GET /a HTTP/1.1|Host: h||"
	checkRun(t, a, get+upgrade+hi+get, api.Outcome{Out: hello + switched + "\x81\x02Hi\x88\x02\x03\xea", Closed: true, Requests: 2, Used: len(lines(get)) + n + 10, Upgraded: true})
}

// 23.1: the last request that a connection may have can upgrade it; behind it nothing closes but the socket.
func TestUpgradeLast(t *testing.T) {
	a := made(t, "requests 2; route /s { socket; }")
	in := lines("GET /b HTTP/1.1|Host: h||" + upgrade)
	o := checkModel(t, a, in+"\x89\x81\x00\x00\x00\x00p")
	if o.Closed || !o.Upgraded || o.Requests != 2 || !strings.HasSuffix(o.Out, lines(switched)+"\x8a\x01p") {
		t.Errorf("%+v", o)
	}
}

// 23.1: an upgrade that is refused is a response as any other: what comes behind it are requests, if it does not close.
func TestUpgradeRefused(t *testing.T) {
	a := made(t, example)
	get := "GET /a HTTP/1.1|Host: h||"
	again := "HTTP/1.1 426 Upgrade Required|Content-Type: text/plain; charset=utf-8|Sec-WebSocket-Version: 13|Content-Length: 17||Upgrade Required~"
	checkRun(t, a, strings.Replace(upgrade, "13", "12", 1)+get, api.Outcome{Out: again + hello, Requests: 2, Used: len(lines(upgrade + get))})
	broken := strings.Replace(upgrade, "websocket", "something", 1)
	checkRun(t, a, broken+get, api.Outcome{Out: plain("500", "Internal Server Error", "22", true), Closed: true, Requests: 1, Used: len(lines(broken))})
}

// 23.1, R6: a message may be as long as the configuration says, and no longer.
func TestFrameLimit(t *testing.T) {
	a := made(t, open)
	n := len(lines(upgrade))
	mask := "\x00\x00\x00\x00"
	checkRun(t, a, upgrade+"\x82\x84"+mask+"abcd", api.Outcome{Out: switched + "\x82\x04abcd", Requests: 1, Used: n + 10, Upgraded: true})
	checkRun(t, a, upgrade+"\x82\x85"+mask+"abcde", api.Outcome{Out: switched + "\x88\x02\x03\xf1", Closed: true, Requests: 1, Used: n + 6, Upgraded: true})
	checkRun(t, a, upgrade+"\x02\x83"+mask+"abc\x80\x82"+mask+"de", api.Outcome{Out: switched + "\x88\x02\x03\xf1", Closed: true, Requests: 1, Used: n + 15, Upgraded: true})
	none := made(t, "frame 0; route /s { socket; }")
	checkRun(t, none, upgrade+"\x82\x80"+mask+"\x82\x81"+mask, api.Outcome{Out: switched + "\x82\x00\x88\x02\x03\xf1", Closed: true, Requests: 1, Used: n + 12, Upgraded: true})
}

// 23.1: the word to go on is said as soon as a head is there behind which somebody waits, and a body may come, and in no other case.
func TestGoOn(t *testing.T) {
	a := made(t, open)
	put := func(path, version, fields string) string {
		return "PUT " + path + " HTTP/" + version + "|Host: h|" + fields + "|"
	}
	says := func(head, body, said, answer string) {
		t.Helper()
		n := len(lines(head))
		checkRun(t, a, head[:len(head)-1]+"\r", api.Outcome{Used: n - 1})
		checkRun(t, a, head, api.Outcome{Out: said, Used: n})
		checkRun(t, a, head+body, api.Outcome{Out: said + answer, Requests: 1, Used: n + len(lines(body))})
		checkRun(t, a, "||"+head+body+head, api.Outcome{Out: said + answer + said, Requests: 1, Used: 4 + 2*n + len(lines(body))})
	}
	expect := "Expect: 100-continue|"
	says(put("/p", "1.1", expect+"Content-Length: 2|"), "ab", goOn, noContent)
	says(put("/p", "1.1", "Content-Length: 9|expect: 100-Continue|"), "123456789", goOn, noContent)
	says(put("/p", "1.1", expect+"Transfer-Encoding: chunked|"), "1|a|0||", goOn, noContent)
	says(put("/p", "1.1", expect+"Transfer-Encoding: chunked|"), "0|T: 1||", goOn, noContent)
	says(put("/p", "1.1", "Content-Length: 2|"), "ab", "", noContent)
	says(put("/p", "1.0", "Connection: keep-alive|"+expect+"Content-Length: 2|"), "ab", "", "HTTP/1.1 204 No Content|Connection: keep-alive||")
	says(put("/none", "1.1", expect+"Content-Length: 2|"), "ab", "", plain("404", "Not Found", "10", false))
	says(strings.Replace(put("/p", "1.1", expect+"Content-Length: 2|"), "PUT", "POST", 1), "ab", "", "HTTP/1.1 405 Method Not Allowed|Content-Type: text/plain; charset=utf-8|Allow: OPTIONS, PUT|Content-Length: 19||Method Not Allowed~")
	says(put("/r", "1.1", expect+"Content-Length: 2|"), "ab", "", "HTTP/1.1 401 Unauthorized|Content-Type: text/plain; charset=utf-8|WWW-Authenticate: Basic realm=\"r\", charset=\"UTF-8\"|Content-Length: 13||Unauthorized~")
	checkRun(t, a, put("/p", "1.1", expect+"Content-Length: 0|"), api.Outcome{Out: noContent, Requests: 1, Used: len(lines(put("/p", "1.1", expect+"Content-Length: 0|")))})
	checkRun(t, a, put("/p", "1.1", expect), api.Outcome{Out: noContent, Requests: 1, Used: len(lines(put("/p", "1.1", expect)))})
}

// 23.1: the word to go on hangs on the handler's chain alone, neither on what the handler answers nor on whether it closes.
func TestGoOnAheadOfTrouble(t *testing.T) {
	a := made(t, open)
	expect := "Expect: 100-continue|Content-Length: 2|"
	head := "PUT /g HTTP/1.1|Host: h|" + expect + "|"
	checkRun(t, a, head+"abGET", api.Outcome{Out: goOn + plain("500", "Internal Server Error", "22", true), Closed: true, Requests: 1, Used: len(lines(head)) + 2})
	head = "PUT /p HTTP/1.1|Host: h|Connection: close|" + expect + "|"
	checkRun(t, a, head+"abGET", api.Outcome{Out: goOn + "HTTP/1.1 204 No Content|Connection: close||", Closed: true, Requests: 1, Used: len(lines(head)) + 2})
	head = "PUT /p HTTP/1.1|Host: h|Expect: 100-continue|Transfer-Encoding: chunked||"
	checkRun(t, a, head+"1|ab", api.Outcome{Out: goOn + plain("400", "Bad Request", "12", true), Closed: true, Used: len(lines(head)) + 5})
	checkRun(t, a, head+"a|", api.Outcome{Out: goOn + plain("413", "Content Too Large", "18", true), Closed: true, Used: len(lines(head)) + 3})
}

// 23.1: an expectation that is not known, or a body that is too long, is a fault of the head: no word.
func TestGoOnOfFaults(t *testing.T) {
	a := made(t, open)
	for fields, want := range map[string]string{
		"Expect: more|Content-Length: 2|":          plain("417", "Expectation Failed", "19", true),
		"Expect: 100-continue|Content-Length: 10|": plain("413", "Content Too Large", "18", true),
	} {
		head := "PUT /p HTTP/1.1|Host: h|" + fields + "|"
		checkRun(t, a, head+"ab", api.Outcome{Out: want, Closed: true, Used: len(lines(head))})
	}
}

// 23.1: a fault is told at the byte at which it is met, and nothing behind it is taken.
func TestFaults(t *testing.T) {
	a := made(t, open)
	get := "GET /e HTTP/1.0||"
	bad := plain("400", "Bad Request", "12", true)
	for _, x := range []struct {
		in   string
		used int
		out  string
	}{
		{"G@T", 2, bad},
		{" ", 1, bad},
		{"\r\r", 2, bad},
		{"||||x\x00y", 10, bad},
		{"GET /e~", 7, bad},
		{"GET /e HTTP/1.1||" + get, 19, bad},
		{"GET /e HTTP/1.1|A b: c||", 25, bad},
		{"GET /e HTTP/1.1|Host: h~", 25, bad},
		{strings.Repeat("A", 25) + " / ", 25, plain("501", "Not Implemented", "16", true)},
		{"GET /" + strings.Repeat("a", 30) + " ", 35, plain("414", "URI Too Long", "13", true)},
		{"GET / HTTP/1.1|A: " + strings.Repeat("a", 300), 217, plain("431", "Request Header Fields Too Large", "32", true)},
		{"GET / HTTP/1.1|" + strings.Repeat("A:|", 8), 44, plain("431", "Request Header Fields Too Large", "32", true)},
		{"PUT /e HTTP/1.1|Host: h|Transfer-Encoding: gzip||", 53, plain("501", "Not Implemented", "16", true)},
		{"PUT /e HTTP/1.1|Host: h|Content-Length: 10||", 48, plain("413", "Content Too Large", "18", true)},
	} {
		checkRun(t, a, x.in, api.Outcome{Out: x.out, Closed: true, Used: x.used})
		echoed := lines("OPTIONS * HTTP/1.1|Host: h||")
		allow := "HTTP/1.1 204 No Content|Allow: OPTIONS, PUT||"
		checkRun(t, a, echoed+x.in+get, api.Outcome{Out: allow + x.out, Closed: true, Requests: 1, Used: len(echoed) + x.used})
	}
}

// 23.1, R6: requests are read by the configuration's limits, each to its last number.
func TestLimits(t *testing.T) {
	a := made(t, open)
	for _, in := range []string{
		"PUT /p?" + strings.Repeat("a", 27) + " HTTP/1.1|Host: h||",
		"PUT /p HTTP/1.1|Host: h|A:|B:|C:|D:|E:||",
		"PUT /p HTTP/1.1|Host: h|A: " + strings.Repeat("a", 200-9-5-2) + "||",
		"PUT /p HTTP/1.1|Host: h|Content-Length: 9||123456789",
		"PUT /p HTTP/1.1|Host: h|Transfer-Encoding: chunked||9|123456789|0||",
	} {
		in = lines(in)
		checkRun(t, a, in+in, api.Outcome{Out: noContent + noContent, Requests: 2, Used: 2 * len(in)})
	}
}

// 23.1: requests have their numbers: behind the last one that a connection may have it is closed.
func TestRequests(t *testing.T) {
	get := "GET /a HTTP/1.1|Host: h||"
	n := len(lines(get))
	checkRun(t, made(t, chapter), strings.Repeat(get, 2), api.Outcome{Out: hello + hello, Requests: 2, Used: 2 * n})
	checkRun(t, made(t, chapter), strings.Repeat(get, 5), api.Outcome{Out: hello + hello + helloCloses, Closed: true, Requests: 3, Used: 3 * n})
	checkRun(t, made(t, "requests 1;"+example), get+get, api.Outcome{Out: helloCloses, Closed: true, Requests: 1, Used: n})
	checkRun(t, made(t, example), strings.Repeat(get, 20), api.Outcome{Out: strings.Repeat(hello, 20), Requests: 20, Used: 20 * n})
}

// 23.1: line ends ahead of a request are taken with it, or wait for one.
func TestLineEnds(t *testing.T) {
	a := made(t, example)
	checkRun(t, a, "", api.Outcome{})
	checkRun(t, a, "||", api.Outcome{Used: 4})
	checkRun(t, a, "||GET /a HTTP/1.1|Host: h||||", api.Outcome{Out: hello, Requests: 1, Used: 36})
	checkRun(t, a, "|GET /a HTTP/1.0|||", api.Outcome{Out: helloCloses, Closed: true, Requests: 1, Used: 21})
}

// 23.1: what is behind a body is the next request, and no part of it.
func TestBodies(t *testing.T) {
	a := made(t, open)
	one := lines("PUT /p HTTP/1.1|Host: h|Content-Length: 4||GET ")
	two := lines("PUT /p HTTP/1.1|Host: h|Transfer-Encoding: chunked||2|~~|0|T: 1||")
	three := lines("PUT /p HTTP/1.1|Host: h||")
	checkRun(t, a, one+two+three+one, api.Outcome{Out: strings.Repeat(noContent, 4), Requests: 4, Used: 2*len(one) + len(two) + len(three)})
	four := lines("PUT /e HTTP/1.1|Host: h|Content-Length: 4||a~|")
	echoed := "HTTP/1.1 200 OK|Content-Type: text/plain; charset=utf-8|Content-Length: 38||PUT /e~Host: h~Content-Length: 4~~a~|"
	checkRun(t, a, four+four+"P", api.Outcome{Out: echoed + echoed, Requests: 2, Used: 2*len(four) + 1})
}

// 23.1, 23.2: of a nil App nothing, and Closed.
func TestNilApp(t *testing.T) {
	for _, a := range []*app.App{nil, new(app.App)} {
		for _, in := range []string{"", "x", lines("GET /a HTTP/1.1|Host: h||"), "@"} {
			for _, ended := range []bool{false, true} {
				if o := whole.Run(a, in, ended); o != (api.Outcome{Closed: true}) {
					t.Errorf("Run(nil, %q, %v): %+v", in, ended, o)
				}
			}
		}
		x := whole.New(a)
		checkShut(t, x)
	}
}

// checkShut holds a stream of a nil app, or none.
func checkShut(t *testing.T, x *whole.Stream) {
	t.Helper()
	for range 2 {
		if o := x.Outcome(); o != (api.Outcome{Closed: true}) {
			t.Errorf("%+v", o)
		}
		if s := x.Feed(lines("GET /a HTTP/1.1|Host: h||@")); s != "" {
			t.Errorf("Feed: %q", s)
		}
		if !x.End() {
			t.Error("End: false")
		}
	}
}

// 23.3: on a nil Stream, and on one that New did not make, all is as of a nil App.
func TestNilStream(t *testing.T) {
	checkShut(t, nil)
	checkShut(t, new(whole.Stream))
}
