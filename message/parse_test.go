package message_test

import (
	"math"
	"strconv"
	"strings"
	"testing"

	"turnpike/api"
	"turnpike/message"
)

func checkParse(t *testing.T, method, s string, most int, ended bool, want outcome) {
	t.Helper()
	r, n, err := message.Parse(method, s, most, ended)
	if got := (outcome{r, n, err}); !got.equal(want) {
		t.Errorf("Parse(%q, %.300q of %d, %d, %v): %v; want %v", method, s, len(s), most, ended, got, want)
	}
}

// checkText holds Parse of a text to some methods against the model.
func checkText(t *testing.T, s string, most int) {
	t.Helper()
	for _, method := range []string{"GET", "HEAD", "CONNECT"} {
		for _, ended := range []bool{false, true} {
			checkParse(t, method, s, most, ended, modelParse(method, s, most, ended))
		}
	}
}

// 12.5, the example 3.
func TestParseExamples(t *testing.T) {
	hi := reply(200, "OK", 1, api.Field{Name: "Content-Length", Value: "2"})
	hi.Framing, hi.Response.Body = api.Framing{Kind: api.FrameLength, Length: 2}, "hi"
	checkParse(t, "GET", lines("HTTP/1.1 200 OK|Content-Length: 2||hix"), 9, false, outcome{reply: hi, n: 40})
	checkParse(t, "GET", lines("HTTP/1.1 200|"), 9, false, wrong(api.ErrReply, 12))
	checkParse(t, "GET", lines("HTTP/1.1 600 "), 9, false, wrong(api.ErrReply, 9))
	checkParse(t, "GET", lines("HTTP/1.1 200 OK|"), 9, false, wrong(api.ErrPartial, 17))
	abc := reply(200, "OK", 1)
	abc.Response.Body, abc.Persist = "abc", false
	checkParse(t, "GET", lines("HTTP/1.1 200 OK||abc"), 9, true, outcome{reply: abc, n: 22})
	checkParse(t, "GET", lines("HTTP/1.1 200 OK||abc"), 9, false, wrong(api.ErrPartial, 22))
}

// 12.5: a limit below 0 goes ahead of all else.
func TestParseArg(t *testing.T) {
	for _, most := range []int{-1, -2, math.MinInt} {
		for _, s := range []string{"", "x", lines("HTTP/1.1 204 ||"), lines("HTTP/1.1 200 |Content-Length: 0||")} {
			checkParse(t, "GET", s, most, false, wrong(api.ErrArg, 0))
			checkParse(t, "HEAD", s, most, true, wrong(api.ErrArg, 0))
		}
	}
}

// 12.5: a body of a length, there and not, at the limit and one past it.
func TestParseLength(t *testing.T) {
	for length := range 6 {
		head := lines("HTTP/1.1 200 |Content-Length: " + strconv.Itoa(length) + "||")
		for there := range 8 {
			for most := range 7 {
				checkText(t, head+"\r\nabcdef"[:there], most)
			}
		}
	}
	head := lines("HTTP/1.1 200 |Content-Length: 5||")
	checkParse(t, "GET", head+"abcde", 4, false, wrong(api.ErrLarge, len(head)))
	checkParse(t, "GET", head, 4, false, wrong(api.ErrLarge, len(head)))
	checkParse(t, "GET", head+"abcd", 5, true, wrong(api.ErrPartial, len(head)+4))
	if r, n, err := message.Parse("HEAD", head+"abcde", 4, false); n != len(head) || err != api.OK || r.Response.Body != "" || !r.Persist {
		t.Error("to HEAD:", show(r), n, err)
	}
	if r, n, err := message.Parse("GET", head+"abcdef", 5, false); n != len(head)+5 || err != api.OK || r.Response.Body != "abcde" || !r.Persist {
		t.Error("to GET:", show(r), n, err)
	}
	for _, n := range []string{"1099511627776", "1099511627777", "9223372036854775807", "9223372036854775808", "0, 0", "00"} {
		for _, most := range []int{0, 1099511627775, 1099511627776, math.MaxInt} {
			checkText(t, lines("HTTP/1.1 200 |Content-Length: "+n+"||x"), most)
		}
	}
}

// 12.5: a body that goes on till the stream ends.
func TestParseToEnd(t *testing.T) {
	for _, head := range []string{"HTTP/1.1 200 ||", "HTTP/1.0 404 |Connection: keep-alive||", "HTTP/1.1 200 |A: 1|Connection: close||"} {
		for there := range 7 {
			for most := range 7 {
				checkText(t, lines(head)+"\r\nabcdef"[:there], most)
			}
			checkText(t, lines(head)+"\r\nabcdef"[:there], math.MaxInt)
		}
	}
	checkParse(t, "GET", lines("HTTP/1.1 200 ||abcd"), 3, true, wrong(api.ErrLarge, 20))
	checkParse(t, "GET", lines("HTTP/1.1 200 ||abcd"), 3, false, wrong(api.ErrLarge, 20))
	checkParse(t, "GET", lines("HTTP/1.1 200 ||a"), 0, false, wrong(api.ErrLarge, 17))
	empty := reply(200, "", 1)
	empty.Persist = false
	checkParse(t, "GET", lines("HTTP/1.1 200 ||"), 0, true, outcome{reply: empty, n: 17})
	checkParse(t, "HEAD", lines("HTTP/1.1 200 ||"), 0, true, outcome{reply: reply(200, "", 1), n: 17})
	kept := reply(200, "", 0, api.Field{Name: "Connection", Value: "keep-alive"})
	checkParse(t, "GET", lines("HTTP/1.0 200 |Connection: keep-alive||"), 0, true, outcome{reply: kept, n: 41})
}

// 12.5: a body in chunks: what is wrong with it, and where.
func TestParseChunks(t *testing.T) {
	head := lines("HTTP/1.1 200 |Transfer-Encoding: chunked||")
	want := reply(200, "", 1, api.Field{Name: "Transfer-Encoding", Value: "chunked"})
	want.Framing.Kind = api.FrameChunked
	want.Response.Body, want.Trailers = "abc", []api.Field{fieldA}
	s := head + lines("2;x|ab|1|c|0|A: 1||")
	checkParse(t, "GET", s+"more", 3, false, outcome{reply: want, n: len(s)})
	for _, c := range []struct {
		body string
		at   int
		err  api.Errno
	}{
		{"", 0, api.ErrPartial},
		{"2|ab", 5, api.ErrPartial},
		{"2|ab|0|", 10, api.ErrPartial},
		{"4|", 2, api.ErrLarge},
		{"2|ab|2|", 9, api.ErrLarge},
		{"10000000001|", 12, api.ErrLarge},
		{"x|", 2, api.ErrChunk},
		{"2|abc", 5, api.ErrChunk},
		{"0|Host: a|", 11, api.ErrTrailer},
		{"0|" + strings.Repeat("A:1|", 101), 3 + 504, api.ErrTrailers},
		{"0|A:" + strings.Repeat(" ", 65535), 3 + 65536, api.ErrTrailers},
	} {
		for _, ended := range []bool{false, true} {
			checkParse(t, "GET", head+lines(c.body), 3, ended, wrong(c.err, len(head)+c.at))
		}
	}
	checkText(t, head+lines("0|A:"+strings.Repeat(" ", 65530)+"||"), 0)
	checkText(t, head+lines("0|"+strings.Repeat("A:1|", 100)+"|"), 0)
	for e := range edits(s, "\r\n 0;:x\xff") {
		checkText(t, e, 3)
		checkText(t, e, 2)
	}
}

// 12.5, over all texts of some pieces, and methods as they stand.
func TestParseAll(t *testing.T) {
	pieces := []string{"HTTP/1.1 200 \r\n", "HTTP/1.0 204 x\r\n", "Content-Length: 3\r\n", "Transfer-Encoding: chunked\r\n", "Connection: close\r\n", "\r\n", "1\r\nx\r\n", "0\r\n", "abc"}
	for s := range texts(pieces, 5) {
		for _, most := range []int{0, 2, 3, 99} {
			checkParse(t, "GET", s, most, false, modelParse("GET", s, most, false))
			checkParse(t, "GET", s, most, true, modelParse("GET", s, most, true))
		}
		checkParse(t, "HEAD", s, 2, true, modelParse("HEAD", s, 2, true))
	}
	for status := 100; status < 600; status++ {
		head := lines("HTTP/1.1 " + strconv.Itoa(status) + " |Content-Length: 1||x")
		for _, method := range []string{"", "GET", "HEAD", "head", "CONNECT", "Connect"} {
			checkParse(t, method, head, 1, false, modelParse(method, head, 1, false))
		}
	}
}
