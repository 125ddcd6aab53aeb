package whole_test

import (
	"strings"
	"sync"
	"testing"

	"turnpike/api"
	"turnpike/app"
	"turnpike/whole"
)

// R5: streams of one app know nothing of one another, how their bytes come between one another's has no part.
func TestStreamsAreApart(t *testing.T) {
	r := newSome(4)
	for range 100 {
		a := r.app(t)
		var rows, said [5]string
		var streams [5]*whole.Stream
		most := 0
		for i := range rows {
			rows[i] = r.row()
			streams[i] = whole.New(a)
			most = max(most, len(rows[i]))
		}
		for n := range most {
			for i, s := range rows {
				if n < len(s) {
					said[i] += streams[i].Feed(s[n : n+1])
				}
			}
		}
		for i, s := range rows {
			if want := modelRun(a, s, false); said[i] != want.Out || streams[i].Outcome() != want {
				t.Fatalf("%q: %q, %+v; want %+v", s, said[i], streams[i].Outcome(), want)
			}
		}
	}
}

// R5: what is answered does not hang on what was asked ahead, nor on what is asked at the same time.
func TestCallsAreApart(t *testing.T) {
	apps := []*app.App{made(t, busy), made(t, "requests 2;"+open), made(t, example), nil}
	var all sync.WaitGroup
	for i := range 8 {
		all.Go(func() {
			r := newSome(uint64(100 + i))
			for range 100 {
				a, s := apps[r.IntN(len(apps))], r.row()
				if o, want := whole.Run(a, s, i%2 == 0), modelRun(a, s, i%2 == 0); o != want {
					t.Errorf("Run(%q): %+v; want %+v", s, o, want)
				}
			}
		})
	}
	all.Wait()
}

// R1: nothing panics, whatever comes.
func TestNothingPanics(t *testing.T) {
	r := newSome(5)
	a := made(t, busy)
	for range 5000 {
		b := make([]byte, r.IntN(60))
		for i := range b {
			b[i] = byte(r.IntN(256))
		}
		in := lines(r.of("", "GET /", "GET / HTTP/1.1|", "PUT /all HTTP/1.1|Host: h|Transfer-Encoding: chunked||", "PUT /p HTTP/1.1|Host: h|Expect: 100-continue|Content-Length: 9||", upgrade)) + string(b)
		if o, want := whole.Run(a, in, false), modelRun(a, in, false); o != want {
			t.Fatalf("%q: %+v; want %+v", in, o, want)
		}
	}
}

// checkLong feeds a long text at once and byte by byte.
func checkLong(t *testing.T, a *app.App, in string, want api.Outcome) {
	t.Helper()
	x, y := whole.New(a), whole.New(a)
	x.Feed(in)
	for i := range len(in) {
		y.Feed(in[i : i+1])
	}
	if o, p := x.Outcome(), y.Outcome(); o != want || p != want {
		t.Errorf("%.60q of %d: %.300q of %d, %d, %d; byte by byte %.300q of %d, %d, %d", in, len(in), o.Out, len(o.Out), o.Used, o.Requests, p.Out, len(p.Out), p.Used, p.Requests)
	}
}

// R1, R6: very many requests, frames and line ends, and a head and a body as long as they may be.
func TestLongRows(t *testing.T) {
	a := made(t, "head 1048576; fields 100; body 3000000; frame 16777216; route PUT /p { status 204; } route /s { socket; }")
	checkLong(t, a, strings.Repeat("\r\n", 1000000), api.Outcome{Used: 2000000})
	const n = 20000
	put := lines("PUT /p HTTP/1.1|Host: h|Expect: 100-continue|Content-Length: 1||x")
	checkLong(t, a, strings.Repeat(put, n), api.Outcome{Out: strings.Repeat(lines(goOn+noContent), n), Requests: n, Used: n * len(put)})
	long := lines("PUT /p HTTP/1.1|Host: h|Content-Length: 3000000||") + strings.Repeat("\n", 3000000)
	checkLong(t, a, long+long, api.Outcome{Out: lines(noContent + noContent), Requests: 2, Used: 2 * len(long)})
	head := lines("PUT /p HTTP/1.1|Host: h|") + strings.Repeat("A: "+strings.Repeat("a", 8000)+"\r\n", 99) + "\r\n"
	checkLong(t, a, head, api.Outcome{Out: lines(noContent), Requests: 1, Used: len(head)})
	frames := lines(upgrade) + strings.Repeat("\x89\x80\x00\x00\x00\x00", n)
	checkLong(t, a, frames, api.Outcome{Out: lines(switched) + strings.Repeat("\x8a\x00", n), Requests: 1, Used: len(frames), Upgraded: true})
	body := strings.Repeat("0123456789abcdef", 100000)
	message := lines(upgrade) + "\x82\xff\x00\x00\x00\x00\x00\x18\x6a\x00\x00\x00\x00\x00" + body
	checkLong(t, a, message, api.Outcome{Out: lines(switched) + "\x82\x7f\x00\x00\x00\x00\x00\x18\x6a\x00" + body, Requests: 1, Used: len(message), Upgraded: true})
}
