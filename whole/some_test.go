package whole_test

import (
	"math/rand/v2"
	"strconv"
	"strings"
	"testing"

	"turnpike/api"
	"turnpike/app"
	"turnpike/whole"
)

// some is a row of things from a fixed seed.
type some struct{ *rand.Rand }

func newSome(seed uint64) some { return some{rand.New(rand.NewPCG(seed, 23))} }

func (r some) of(l ...string) string { return l[r.IntN(len(l))] }

// busy is a configuration in which all kinds of things can be asked.
const busy = `name "the server"; date 784111777; slash; target 40; head 400; fields 12; body 20; frame 6;
middle add X-A 1; middle origin 60 "" http://o; middle cache no-cache;
route GET /in { middle basic r u:p; echo; }
route GET PUT /u/:id/*rest { middle strip /u; middle set X-B 2; params; }
route POST PUT /form { form 9; } route GET /n { count n; } route /s { socket; } route GET /to/:x { redirect 302 "/{x}"; }
route GET /f/*r { static r 1; } route GET /g { status 500; } route /all { echo; } route PUT /small { middle body 2; status 204; }
route /same { status 304; } route /reset { status 205; } route /bad { middle add Connection close; status 200; }
file /x.txt { media text/plain; language en; body 0123456789; time 784111777; }
file /d/index.html { body "<p>"; coding gzip; } file /e/f { body ""; }`

func (r some) app(t *testing.T) *app.App {
	t.Helper()
	return made(t, r.of("", "", "requests 1;", "requests 2;", "requests 5;")+r.of(busy, busy, busy, open, example))
}

func (r some) field() string {
	return r.of("Host: h", "Connection: close", "Connection: keep-alive", "Connection: x, Close", "Expect: 100-continue", "Expect: 100-Continue", "Expect: 1",
		"Range: bytes=2-4", "Range: bytes=0-0,-1", "Range: bytes=99-", "If-None-Match: *", "If-Match: \"a\"", "Origin: http://o", "Cookie: n=4",
		"Authorization: Basic dTpw", "Content-Type: application/x-www-form-urlencoded", "Accept-Language: en", "A: "+strings.Repeat("a", r.IntN(99)), "B :", "C", " d", "Upgrade: websocket", "Transfer-Encoding: gzip") + "|"
}

// body is a field that says how a body is framed, and the body; mostly as long as it says.
func (r some) body() (string, string) {
	text := strings.Repeat(r.of("a", "~", "a=1&", "\x00"), r.IntN(6))
	switch r.IntN(8) {
	case 0, 1, 2:
		return "", ""
	case 3:
		return "Content-Length: " + strconv.Itoa(r.IntN(30)) + "|", text
	case 4:
		return "Transfer-Encoding: chunked|", r.of("1|a|", "2|~~|", "0003;x=y|abc|", "") + r.of("0||", "0|T: 1||", "0|Host: 1||", "x", "19|")
	}
	return "Content-Length: " + strconv.Itoa(len(text)) + "|", text
}

// request is a request, of which each part is mostly right.
func (r some) request() string {
	if r.IntN(12) == 0 {
		return lines(upgrade)
	}
	method := r.of("GET", "GET", "GET", "HEAD", "PUT", "PUT", "PUT", "POST", "OPTIONS", "DELETE", "CONNECT")
	path := r.of("/a", "/b", "/e", "/p", "/l", "/r", "/g", "/in", "/u/7/x", "/form", "/n", "/s", "/to/y", "/f/x.txt", "/f/d", "/f/d/", "/f/e", "/all", "/all/", "/small", "/same", "/reset", "/bad", "/%61", "/./a", "http://h/all")
	if r.IntN(12) == 0 {
		path = r.of("*", "h:80", "/%4", "/"+strings.Repeat("x", 40), "a")
	}
	fields := r.of("Host: h|", "Host: h|", "Host: h|", "")
	for range r.IntN(3) {
		fields += r.field()
	}
	framing, body := r.body()
	if framing != "" && r.IntN(2) == 0 {
		fields += "Expect: 100-continue|"
	}
	return lines(r.of("", "", "|") + method + " " + path + " HTTP/" + r.of("1.1", "1.1", "1.1", "1.1", "1.0", "2.0") + "|" + fields + framing + "|" + body)
}

// frame is a frame as a client sends it; mostly right.
func (r some) frame() string {
	first := []byte{0x81, 0x82, 0x01, 0x02, 0x80, 0x00, 0x89, 0x8a, 0x88, 0xc1}[r.IntN(10)]
	n := r.IntN(8)
	return string([]byte{first, byte(n) + 128, 0, 0, 0, 0}) + strings.Repeat(r.of("a", "\x03\xe8"), 8)[:n]
}

// row is what a client sends, with something else in some places.
func (r some) row() string {
	s := ""
	for range r.IntN(6) {
		s += r.request()
	}
	if strings.Contains(s, "websocket") || r.IntN(20) == 0 {
		for range r.IntN(5) {
			s += r.frame()
		}
	}
	switch {
	case s == "" || r.IntN(3) > 0:
	case r.IntN(2) == 0:
		s = s[:r.IntN(len(s))]
	default:
		at := r.IntN(len(s))
		s = s[:at] + string([]byte{byte(r.IntN(256))}) + s[at+r.IntN(2):]
	}
	return s
}

// pieces is a text cut at some places.
func (r some) pieces(s string) []string {
	l := []string{""}
	for s != "" {
		n := 1 + r.IntN(min(len(s), 1+r.IntN(60)))
		l = append(l, s[:n])
		s = s[n:]
	}
	return l
}

// 23.1, 23.2, 23.4: rows of requests and frames, however they are cut.
func TestSomeRows(t *testing.T) {
	r := newSome(1)
	for range 1500 {
		a := r.app(t)
		for range 4 {
			in := r.row()
			o := modelRun(a, in, false)
			if got := whole.Run(a, in, false); got != o {
				t.Fatalf("%q: %+v; want %+v", in, got, o)
			}
			checkCut(t, a, r.pieces(in))
		}
	}
}

// 23.4: what is said of a beginning is a beginning of what is said of the whole, and behind a closed one nothing more is said or taken.
func TestBeginnings(t *testing.T) {
	r := newSome(2)
	for range 300 {
		a := r.app(t)
		in := r.row()
		all := whole.Run(a, in, false)
		ahead := api.Outcome{}
		for n := range len(in) + 1 {
			o := whole.Run(a, in[:n], false)
			if !strings.HasPrefix(all.Out, o.Out) || !strings.HasPrefix(o.Out, ahead.Out) || o.Requests < ahead.Requests || o.Used > n {
				t.Fatalf("%q of %q: %+v; behind %+v; the whole %+v", in[:n], in, o, ahead, all)
			}
			if ahead.Closed && o != ahead || !o.Closed && o.Used != n {
				t.Fatalf("%q of %q: %+v behind %+v", in[:n], in, o, ahead)
			}
			ended := whole.Run(a, in[:n], true)
			want := o
			want.Closed = true
			if ended != want {
				t.Fatalf("%q, ended: %+v; want %+v", in[:n], ended, want)
			}
			ahead = o
		}
		if all.Closed {
			if o := whole.Run(a, in[:all.Used], false); o != all {
				t.Fatalf("%q: %+v; of as many bytes as are used %+v", in, all, o)
			}
		}
	}
}
