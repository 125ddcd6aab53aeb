package message_test

import (
	"strings"
	"testing"

	"turnpike/api"
	"turnpike/message"
)

func checkParseHead(t *testing.T, s string, want outcome) {
	t.Helper()
	r, n, err := message.ParseHead(s)
	if got := (outcome{r, n, err}); !got.equal(want) {
		t.Errorf("ParseHead(%.300q of %d): %v; want %v", s, len(s), got, want)
	}
}

func reply(status int, reason string, minor int, fields ...api.Field) api.Reply {
	return api.Reply{Response: api.Response{Status: status, Reason: reason, Fields: fields}, Minor: minor, Persist: minor == 1}
}

// 12.4: heads.
func TestParseHead(t *testing.T) {
	checkParseHead(t, lines("HTTP/1.1 200 OK||"), outcome{reply: reply(200, "OK", 1), n: 19})
	checkParseHead(t, lines("HTTP/1.1 200 OK||x|y"), outcome{reply: reply(200, "OK", 1), n: 19})
	checkParseHead(t, lines("HTTP/1.0 599  a\tb |A: 1|b:||"), outcome{reply: reply(599, " a\tb ", 0, fieldA, api.Field{Name: "b"}), n: 32})
	checkParseHead(t, lines("HTTP/1.1 100 ||"), outcome{reply: reply(100, "", 1), n: 17})
	// Persist is as far as the fields say: a method may say that there is no body.
	for _, c := range []struct {
		s       string
		persist bool
	}{
		{"HTTP/1.1 200 ||", true},
		{"HTTP/1.1 200 |Connection: close||", false},
		{"HTTP/1.1 200 |connection: a, CLOSE||", false},
		{"HTTP/1.1 200 |Connection: \"||", false},
		{"HTTP/1.0 200 ||", false},
		{"HTTP/1.0 200 |Connection: keep-alive||", true},
		{"HTTP/1.0 200 |Connection: keep-alive|Connection: close||", false},
		{"HTTP/1.1 101 |Connection: upgrade||", true},
	} {
		if r, n, err := message.ParseHead(lines(c.s)); r.Persist != c.persist || n != len(lines(c.s)) || err != api.OK {
			t.Errorf("ParseHead(%q): %s, %d, %d", c.s, show(r), n, err)
		}
	}
	for _, c := range []struct {
		s       string
		framing api.Framing
	}{
		{"HTTP/1.1 200 ||", api.Framing{}},
		{"HTTP/1.1 204 |Content-Length: 5||", api.Framing{Kind: api.FrameLength, Length: 5}},
		{"HTTP/1.1 200 |content-length: 7, 07||", api.Framing{Kind: api.FrameLength, Length: 7}},
		{"HTTP/1.1 100 |Transfer-Encoding: chunked||", api.Framing{Kind: api.FrameChunked}},
	} {
		if r, n, err := message.ParseHead(lines(c.s) + "0\r\n\r\n"); r.Framing != c.framing || n != len(lines(c.s)) || err != api.OK || r.Response.Body != "" {
			t.Errorf("ParseHead(%q): %s, %d, %d", c.s, show(r), n, err)
		}
	}
}

// 12.4: what is wrong, and where.
func TestParseHeadErrors(t *testing.T) {
	for _, c := range []struct {
		s   string
		at  int
		err api.Errno
	}{
		{"", 0, api.ErrPartial},
		{"HTTP/1.1 200", 12, api.ErrPartial},
		{"HTTP/1.1 200|", 12, api.ErrReply},
		{"HTTP/1.1 600 ", 9, api.ErrReply},
		{"HTTP/1.1 099 ", 9, api.ErrReply},
		{"HTTP/1.1 20x ", 11, api.ErrReply},
		{"HTTP/1.2 ", 7, api.ErrReply},
		{"HTTP/2", 5, api.ErrReply},
		{"http", 0, api.ErrReply},
		{"|HTTP/1.1 200 ||", 0, api.ErrReply},
		{"HTTP/1.1 200 OK|", 17, api.ErrPartial},
		{"HTTP/1.1 200 OK\r", 16, api.ErrPartial},
		{"HTTP/1.1 200 OK\n", 15, api.ErrReply},
		{"HTTP/1.1 200 OK\rx", 16, api.ErrReply},
		{"HTTP/1.1 200 OK\r\r\n", 16, api.ErrReply},
		{"HTTP/1.1 200 \x00", 13, api.ErrReply},
		{"HTTP/1.1 200 x\x7f", 14, api.ErrReply},
		{"HTTP/1.1 200 |A: 1\n", 19, api.ErrReply},
		{"HTTP/1.1 200 |A: 1\rx", 20, api.ErrReply},
		{"HTTP/1.1 200 |\n", 15, api.ErrReply},
		{"HTTP/1.1 200 |\r\r", 16, api.ErrReply},
		{"HTTP/1.1 200 |\r", 16, api.ErrPartial},
		{"HTTP/1.1 200 |A b: 1", 21, api.ErrPartial},
		{"HTTP/1.1 200 |A b: 1\r", 22, api.ErrPartial},
		{"HTTP/1.1 200 |A b: 1\rx", 22, api.ErrReply},
		{"HTTP/1.1 200 |A b: 1|", 16, api.ErrName},
		{"HTTP/1.1 200 |A: 1| b|", 21, api.ErrFolded},
		{"HTTP/1.1 200 |A: 1|b|", 22, api.ErrColon},
		{"HTTP/1.1 200 |A: 1|b: \x00c|", 24, api.ErrValue},
		{"HTTP/1.1 200 |Content-Length: x|\r", 35, api.ErrPartial},
		{"HTTP/1.1 200 |Content-Length: x||", 34, api.ErrLengths},
		{"HTTP/1.1 204 |Content-Length: x||", 34, api.ErrLengths},
		{"HTTP/1.1 200 |Transfer-Encoding: gzip||", 40, api.ErrCodings},
		{"HTTP/1.0 200 |Transfer-Encoding: chunked||", 43, api.ErrCodings},
		{"HTTP/1.1 100 |Transfer-Encoding: chunked|Content-Length: 0||", 62, api.ErrBoth},
	} {
		checkParseHead(t, lines(c.s), wrong(c.err, c.at))
		checkParse(t, "HEAD", lines(c.s), 9, true, wrong(c.err, c.at))
		checkParse(t, "GET", lines(c.s), 9, false, wrong(c.err, c.at))
	}
}

// 12.4: how long a reason may be.
func TestParseHeadReason(t *testing.T) {
	full := strings.Repeat("\xfe ", 128)
	checkParseHead(t, "HTTP/1.1 200 "+full+"\r\n\r\n", outcome{reply: reply(200, full, 1), n: 273})
	checkParseHead(t, "HTTP/1.1 200 "+full, wrong(api.ErrPartial, 269))
	checkParseHead(t, "HTTP/1.1 200 "+full+"\r", wrong(api.ErrPartial, 270))
	checkParseHead(t, "HTTP/1.1 200 "+full+"x\r\n\r\n", wrong(api.ErrReply, 269))
	checkParseHead(t, "HTTP/1.1 200 "+full+"\n", wrong(api.ErrReply, 269))
	checkParseHead(t, "HTTP/1.1 200 "+full+"\rx", wrong(api.ErrReply, 270))
	checkParseHead(t, "HTTP/1.1 200 "+strings.Repeat(" ", 99999), wrong(api.ErrReply, 269))
}

// 12.4: how many fields there may be.
func TestParseHeadMany(t *testing.T) {
	begin := lines("HTTP/1.1 200 |") + strings.Repeat("A:1\r\n", 99)
	checkParseHead(t, begin+"A:1\r\n\r\n", modelHead(begin+"A:1\r\n\r\n"))
	if r, n, err := message.ParseHead(begin + "A:1\r\n\r\n"); len(r.Response.Fields) != 100 || n != 517 || err != api.OK {
		t.Error("100 fields:", len(r.Response.Fields), n, err)
	}
	checkParseHead(t, begin+"A b\r\n", wrong(api.ErrColon, 513))
	begin += "A:1\r\n"
	checkParseHead(t, begin+"A:1", wrong(api.ErrPartial, 518))
	checkParseHead(t, begin+"A:1\r", wrong(api.ErrPartial, 519))
	checkParseHead(t, begin+"A:1\n", wrong(api.ErrReply, 518))
	checkParseHead(t, begin+"A:1\r\n", wrong(api.ErrMany, 515))
	checkParseHead(t, begin+" A b\r\n", wrong(api.ErrMany, 515)) // ahead of what is wrong with that line
	checkParseHead(t, begin+"\r\n", modelHead(begin+"\r\n"))
}

// 12.4: how long a head may be: its last line ends at each place around the limit, rightly and not.
func TestParseHeadLarge(t *testing.T) {
	const most = 65536
	begin := "HTTP/1.1 200 \r\n" + strings.Repeat("A: "+strings.Repeat("v", 8000)+"\r\n", 8)
	for n := range 9 {
		for _, line := range []string{"B: ", "B", "B b:", " ", "B: \x00", "Content-Length: "} {
			pad := most - len(begin) - len(line) - 6 + n
			for _, end := range []string{"\r\n\r\n", "\r\n", "\r", "", "\n", "\r\n\r", "\r\n\n", "\r\n\rx", "\r\n\r\nmore", "\rx", "x\r\n\r\n"} {
				s := begin + line + strings.Repeat("w", pad) + end
				checkParseHead(t, s, modelHead(s))
			}
		}
	}
	blank := begin + "B:" + strings.Repeat(" ", most-len(begin)-6)
	checkParseHead(t, blank+"\r\n\r\n", modelHead(blank+"\r\n\r\n"))
	if _, n, err := message.ParseHead(blank + "\r\n\r\nx"); n != most || err != api.OK {
		t.Error("a head at its limit:", n, err)
	}
	checkParseHead(t, blank+" \r\n\r\n", wrong(api.ErrLarge, most))
	checkParseHead(t, blank+" \r\n\r", wrong(api.ErrPartial, most))
	checkParseHead(t, blank+" \r\n\rx", wrong(api.ErrLarge, most))
	checkParseHead(t, blank+"  \r\nx", wrong(api.ErrLarge, most))
	checkParseHead(t, blank+"\x00 \r\n", wrong(api.ErrValue, most-4))
	checkParseHead(t, blank+"\x00  \r\n", wrong(api.ErrLarge, most))
	checkParseHead(t, begin+strings.Repeat("x", 1<<20), wrong(api.ErrLarge, most))
}

// 12.4, held against the model over all texts of some pieces.
func TestParseHeadAll(t *testing.T) {
	for s := range texts([]string{"HTTP/1.", "1", "0", " ", "200", "5", "x", "\r\n", "\r", "\n"}, 5) {
		checkParseHead(t, s, modelHead(s))
	}
	for s := range texts([]string{"A", ":", " ", "\r", "\n", "\r\n", "\x00"}, 6) {
		checkParseHead(t, "HTTP/1.1 200 \r\n"+s, modelHead("HTTP/1.1 200 \r\n"+s))
	}
	for s := range texts([]string{"Content-Length: 1\r\n", "Transfer-Encoding: chunked\r\n", "content-length: 2\r\n", "Connection: close\r\n", "Connection: keep-alive\r\n", "\r\n"}, 4) {
		checkParseHead(t, "HTTP/1.1 200 \r\n"+s, modelHead("HTTP/1.1 200 \r\n"+s))
		checkParseHead(t, "HTTP/1.0 200 \r\n"+s, modelHead("HTTP/1.0 200 \r\n"+s))
	}
}

// 12.4: every status line, right or not by one of its numbers.
func TestParseHeadStatuses(t *testing.T) {
	for minor := range 10 {
		for status := range 1000 {
			digits := string([]byte{byte('0' + status/100), byte('0' + status/10%10), byte('0' + status%10)})
			s := "HTTP/1." + string([]byte{byte('0' + minor)}) + " " + digits + " \r\n\r\n"
			switch {
			case minor > 1:
				checkParseHead(t, s, wrong(api.ErrReply, 7))
			case status < 100 || status > 599:
				checkParseHead(t, s, wrong(api.ErrReply, 9))
			default:
				checkParseHead(t, s, outcome{reply: reply(status, "", minor), n: 17})
			}
		}
	}
}

// 12.4, over each change of one byte in some heads.
func TestParseHeadEdits(t *testing.T) {
	for _, s := range []string{"HTTP/1.1 200 OK|A: 1|Content-Length: 2||hi", "HTTP/1.0 404 |Connection: close||", "HTTP/1.1 500 a b|Transfer-Encoding: chunked||0||"} {
		for e := range edits(lines(s), everyByte()) {
			checkParseHead(t, e, modelHead(e))
		}
	}
}
