package parse_test

import (
	"strconv"
	"strings"
	"testing"

	"turnpike/api"
)

// 11.2, R6: bodies with a length, up to the limit.
func TestLengths(t *testing.T) {
	for _, n := range []int{0, 1, 2, 3, 1000, 1048575, 1048576} {
		body := strings.Repeat("\x00\r\n\xff", n/4+1)[:n]
		length := api.Field{Name: "Content-Length", Value: strconv.Itoa(n)}
		head := "POST /x HTTP/1.0\r\nContent-Length: " + strconv.Itoa(n) + "\r\n\r\n"
		want := done(with(request("POST", "/x", 0, length), body), len(head)+n)
		for _, behind := range []string{"", "\r\n", "GET / HTTP/1.0\r\n\r\n", "\x00"} {
			checkWhole(t, usual(), head+body+behind, want)
		}
		for _, cut := range []int{0, 1, n / 2, n - 1} {
			if s := head + body[:max(0, min(cut, n-1))]; n > 0 {
				checkWhole(t, usual(), s, more(s))
			}
		}
		checkWhole(t, narrow(func(l *api.Limits) { l.Body = n }), head+body, want)
		if n > 0 {
			checkFault(t, narrow(func(l *api.Limits) { l.Body = n - 1 }), head+body, 413, api.ErrBody, len(head)-1)
		}
	}
}

// 11.2: a body in chunks, its trailer, and what stands behind it.
func TestChunks(t *testing.T) {
	head := lines("POST / HTTP/1.1|Host: a|Transfer-Encoding: Chunked||")
	plain := request("POST", "/", 1, hostA, api.Field{Name: "Transfer-Encoding", Value: "Chunked"})
	for s, want := range map[string]api.Request{
		"0||":                        plain,
		"1|x|0||":                    with(plain, "x"),
		"3|abc|2;a=b|de|0|A: 1||":    with(plain, "abcde", api.Field{Name: "A", Value: "1"}),
		"2|\x00\r|00|B:|a: 2|B: 3||": with(plain, "\x00\r", api.Field{Name: "B"}, api.Field{Name: "a", Value: "2"}, api.Field{Name: "B", Value: "3"}),
	} {
		s = lines(s)
		checkWhole(t, usual(), head+s, done(want, len(head)+len(s)))
		checkWhole(t, usual(), head+s+"\r\nrest", done(want, len(head)+len(s)))
		for i := range len(s) {
			checkWhole(t, usual(), head+s[:i], more(head+s[:i]))
		}
	}
}

// 11.2: what is wrong with a body in chunks, by its limits, with the statuses of the table.
func TestChunksRefused(t *testing.T) {
	head := lines("POST / HTTP/1.1|Host:|Transfer-Encoding: chunked||")
	room := len(head) - len("POST / HTTP/1.1\r\n")
	l := api.Limits{Target: 1, Head: room, Fields: 2, Body: 5}
	for _, p := range []struct {
		s      string
		status int
		err    api.Errno
	}{
		{"6|", 413, api.ErrMuch}, {"5|abcde|1|", 413, api.ErrMuch}, {"ffffffffffffffffffff|", 413, api.ErrMuch}, {"10000000001|", 413, api.ErrMuch},
		{"g|", 400, api.ErrChunk}, {"|", 400, api.ErrChunk}, {"1\n", 400, api.ErrChunk}, {"1|ab", 400, api.ErrChunk}, {"1|a\rb", 400, api.ErrChunk}, {strings.Repeat("0", 256), 400, api.ErrChunk},
		{"0|A\n", 400, api.ErrTrailer}, {"0|A|", 400, api.ErrTrailer}, {"0|Host: a|", 400, api.ErrTrailer}, {"0|A: 1|Content-Length: 1|", 400, api.ErrTrailer},
		{"0|A:|B:|C:|", 431, api.ErrTrailers}, {"0|A:" + strings.Repeat("x", room-1), 431, api.ErrTrailers}, {"0|A:" + strings.Repeat("x", room-4) + "|\r", 431, api.ErrTrailers},
	} {
		s := head + lines(p.s)
		checkFault(t, l, s, p.status, p.err, len(s)-1)
	}
	full := lines("5|abcde|0|A:1|B:" + strings.Repeat("x", room-11) + "||")
	o := whole(l, head+full)
	if o.kind != api.ParseDone || o.request.Body != "abcde" || len(o.request.Trailers) != 2 || o.n != len(head+full) {
		t.Error("a body and a trailer as long as they may be:", o)
	}
	s := head + lines("5|abcde|0|A:1|B:"+strings.Repeat("x", room-10)+"||")
	checkFault(t, l, s, 431, api.ErrTrailers, len(s)-1)
}

// 11.2, R6: the widest limit of a body in chunks is the decoder's.
func TestWideChunks(t *testing.T) {
	l := narrow(func(l *api.Limits) { l.Body = 1073741824 })
	head := lines("POST / HTTP/1.1|Host:|Transfer-Encoding: chunked||")
	checkWhole(t, l, head+"40000000\r\nx", more(head+"40000000\r\nx"))
	checkFault(t, l, head+"40000001\r\n", 413, api.ErrMuch, len(head)+9)
	head = lines("POST / HTTP/1.0|Content-Length: 1073741824||")
	checkWhole(t, l, head+"x", more(head+"x"))
	checkFault(t, l, lines("POST / HTTP/1.0|Content-Length: 1073741825||"), 413, api.ErrBody, len(head)-1)
}
