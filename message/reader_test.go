package message_test

import (
	"fmt"
	"math"
	"slices"
	"strings"
	"testing"

	"turnpike/api"
	"turnpike/message"
)

func newReader(t *testing.T, most int, methods ...string) *message.Reader {
	t.Helper()
	r, err := message.New(most)
	if r == nil || err != api.OK {
		t.Fatalf("New(%d): %v, %d", most, r != nil, err)
	}
	for _, m := range methods {
		if err := r.Ask(m); err != api.OK {
			t.Fatalf("Ask(%q): %d", m, err)
		}
	}
	return r
}

func check(t *testing.T, what string, got, want api.Errno) {
	t.Helper()
	if got != want {
		t.Errorf("%.300s: %d; want %d", what, got, want)
	}
}

// checkTells tells what a reader says of itself; being asked changes nothing.
func checkTells(t *testing.T, r *message.Reader, asked int, err api.Errno, over bool) {
	t.Helper()
	for range 2 {
		if r.Asked() != asked || r.Err() != err || r.Over() != over {
			t.Errorf("Asked %d, Err %d, Over %v; want %d, %d, %v", r.Asked(), r.Err(), r.Over(), asked, err, over)
		}
	}
}

// checkNext takes replies with these statuses and bodies, and no more.
func checkNext(t *testing.T, r *message.Reader, want ...string) {
	t.Helper()
	var got []string
	for x, ok := r.Next(); ok; x, ok = r.Next() {
		got = append(got, fmt.Sprint(x.Response.Status, " ", x.Response.Body))
	}
	if !slices.Equal(got, want) {
		t.Errorf("replies %.300q; want %.300q", got, want)
	}
	if x, ok := r.Next(); ok || !sameReply(x, api.Reply{}) {
		t.Errorf("Next behind the last one: %s, %v", show(x), ok)
	}
}

// 12.6 to 12.9, the example 4.
func TestReaderExample(t *testing.T) {
	r := newReader(t, 9, "HEAD", "GET")
	checkTells(t, r, 2, api.OK, false)
	check(t, "Feed", r.Feed(lines("HTTP/1.1 200 OK|Content-Length: 2||HTTP/1.1 100 ||HTTP/1.1 200 OK|Content-Length: 2||hi")), api.OK)
	checkTells(t, r, 0, api.OK, false)
	checkNext(t, r, "200 ", "100 ", "200 hi")
	check(t, "one byte more", r.Feed("x"), api.ErrStream)
	checkTells(t, r, 0, api.ErrStream, false)
}

// 12.6.
func TestNew(t *testing.T) {
	for _, most := range []int{-1, math.MinInt} {
		if r, err := message.New(most); r != nil || err != api.ErrArg {
			t.Errorf("New(%d): %v, %d", most, r != nil, err)
		}
	}
	for _, most := range []int{0, 1, math.MaxInt} {
		r := newReader(t, most)
		checkTells(t, r, 0, api.OK, false)
		checkNext(t, r)
		check(t, "Feed of nothing", r.Feed(""), api.OK)
		checkTells(t, r, 0, api.OK, false)
		check(t, "End", r.End(), api.OK)
		checkTells(t, r, 0, api.OK, true)
	}
}

// 12.6: how many may wait.
func TestAsk(t *testing.T) {
	r := newReader(t, 9)
	for n := range 64 {
		check(t, "Ask", r.Ask("HEAD"), api.OK)
		checkTells(t, r, n+1, api.OK, false)
	}
	for range 3 {
		check(t, "Ask, the 65th", r.Ask("GET"), api.ErrMany)
		checkTells(t, r, 64, api.OK, false)
	}
	one := lines("HTTP/1.1 200 |Content-Length: 1||")
	check(t, "Feed", r.Feed(one), api.OK)
	checkTells(t, r, 63, api.OK, false)
	check(t, "Ask", r.Ask("GET"), api.OK)
	check(t, "Ask", r.Ask("GET"), api.ErrMany)
	check(t, "Feed", r.Feed(strings.Repeat(one, 64)+"x"), api.OK)
	checkTells(t, r, 0, api.OK, false)
	checkNext(t, r, append(slices.Repeat([]string{"200 "}, 64), "200 x")...)
	// Whoever has failed, or has ended, can still be told of requests.
	check(t, "Feed", r.Feed("x"), api.ErrStream)
	check(t, "Ask", r.Ask("GET"), api.OK)
	checkTells(t, r, 1, api.ErrStream, false)
	r = newReader(t, 9)
	r.End()
	check(t, "Ask", r.Ask("GET"), api.OK)
	checkTells(t, r, 1, api.OK, true)
}

// 12.7: a response that comes where no request waits.
func TestNobodyWaits(t *testing.T) {
	for _, s := range []string{"H", "x", "\r", lines("HTTP/1.1 200 ||"), lines("HTTP/1.1 100 ||")} {
		r := newReader(t, 9)
		check(t, "Feed of nothing", r.Feed(""), api.OK)
		check(t, "Feed", r.Feed(s), api.ErrStream)
		checkTells(t, r, 0, api.ErrStream, false)
		checkNext(t, r)
		check(t, "Feed", r.Feed(""), api.ErrStream)
		r.Ask("GET")
		check(t, "Feed, too late", r.Feed(lines("HTTP/1.1 204 ||")), api.ErrStream)
		check(t, "End", r.End(), api.ErrStream)
		checkTells(t, r, 1, api.ErrStream, false)
		checkNext(t, r)
		r = newReader(t, 9, "GET")
		check(t, "Feed", r.Feed(lines("HTTP/1.1 204 ||")+s), api.ErrStream)
		checkTells(t, r, 0, api.ErrStream, false)
		checkNext(t, r, "204 ")
	}
}

// 12.7: interim responses let their request wait on, whatever they say of the connection.
func TestInterimReplies(t *testing.T) {
	r := newReader(t, 9, "GET", "HEAD")
	for n := 0; n < 100; n++ {
		if n == 1 {
			continue
		}
		check(t, "Feed", r.Feed(fmt.Sprintf("HTTP/1.%d 1%02d x\r\nConnection: close\r\nContent-Length: 99\r\n\r\n", n%2, n)), api.OK)
		checkTells(t, r, 2, api.OK, false)
		checkNext(t, r, fmt.Sprintf("1%02d ", n))
	}
	check(t, "Feed", r.Feed(lines("HTTP/1.1 200 |Content-Length: 1||xHTTP/1.1 103 ||")), api.OK)
	checkTells(t, r, 1, api.OK, false)
	check(t, "Feed", r.Feed(lines("HTTP/1.1 304 ||")), api.OK)
	checkTells(t, r, 0, api.OK, false)
	checkNext(t, r, "200 x", "103 ", "304 ")
	check(t, "Feed, an interim one behind the last", r.Feed(lines("HTTP/1.1 100 ||")), api.ErrStream)
}

// 12.7: behind which responses the stream is over, and bytes are let go.
func TestOver(t *testing.T) {
	for _, c := range []struct {
		method, s string
		over      bool
	}{
		{"GET", "HTTP/1.1 200 |Content-Length: 0||", false},
		{"GET", "HTTP/1.1 200 |Content-Length: 0|Connection: close||", true},
		{"GET", "HTTP/1.0 200 |Content-Length: 0||", true},
		{"GET", "HTTP/1.0 200 |Content-Length: 0|Connection: keep-alive||", false},
		{"GET", "HTTP/1.1 101 ||", true},
		{"CONNECT", "HTTP/1.1 101 |Connection: upgrade||", true},
		{"HEAD", "HTTP/1.1 200 ||", false},
		{"CONNECT", "HTTP/1.1 200 ||", true},
		{"CONNECT", "HTTP/1.1 299 |Content-Length: 5||", true},
		{"CONNECT", "HTTP/1.1 300 |Content-Length: 0||", false},
		{"CONNECT", "HTTP/1.1 199 ||", false},
		{"connect", "HTTP/1.1 200 |Content-Length: 0||", false},
		{"GET", "HTTP/1.1 100 |Connection: close||", false},
		{"GET", "HTTP/1.1 304 ||", false},
		{"GET", "HTTP/1.1 204 |Connection: close||", true},
		{"GET", "HTTP/1.1 200 |Transfer-Encoding: chunked|Connection: close||0||", true},
	} {
		r := newReader(t, 9, c.method, "HEAD")
		check(t, c.s, r.Feed(lines(c.s)), api.OK)
		if r.Over() != c.over {
			t.Errorf("%s: over %v", c.s, r.Over())
		}
		if !c.over {
			continue
		}
		waiting := r.Asked()
		if waiting != 1 {
			t.Errorf("%s: %d wait", c.s, waiting)
		}
		for _, more := range []string{"", "x", "\r\n", lines("HTTP/1.1 200 ||"), strings.Repeat("y", 100)} {
			check(t, c.s+more, r.Feed(more), api.OK)
			checkTells(t, r, waiting, api.OK, true)
		}
		if _, ok := r.Next(); !ok {
			t.Error("no reply of", c.s)
		}
		checkNext(t, r)
		check(t, "End", r.End(), api.OK)
		checkTells(t, r, waiting, api.OK, true)
		check(t, "End", r.End(), api.ErrStream)
		check(t, "Feed", r.Feed("x"), api.ErrStream)
		checkTells(t, r, waiting, api.OK, true)
		// In one piece, with what stands behind it.
		r = newReader(t, 9, c.method)
		check(t, c.s, r.Feed(lines(c.s)+"\x00\n"), api.OK)
		checkTells(t, r, 0, api.OK, true)
	}
}

// 12.8.
func TestEnd(t *testing.T) {
	for _, c := range []struct {
		s     string
		err   api.Errno
		asked int
		want  []string
	}{
		{"", api.OK, 2, nil},
		{"H", api.ErrPartial, 2, nil},
		{"HTTP/1.1 200 |", api.ErrPartial, 2, nil},
		{"HTTP/1.1 200 |Content-Length: 1||", api.ErrPartial, 2, nil},
		{"HTTP/1.1 200 |Content-Length: 1||x", api.OK, 1, []string{"200 x"}},
		{"HTTP/1.1 200 |Content-Length: 1||xH", api.ErrPartial, 1, []string{"200 x"}},
		{"HTTP/1.1 200 |Content-Length: 1|Connection: close||xH", api.OK, 1, []string{"200 x"}},
		{"HTTP/1.1 200 |Transfer-Encoding: chunked||", api.ErrPartial, 2, nil},
		{"HTTP/1.1 200 |Transfer-Encoding: chunked||0|", api.ErrPartial, 2, nil},
		{"HTTP/1.1 100 ||", api.OK, 2, []string{"100 "}},
		{"HTTP/1.1 200 ||", api.OK, 1, []string{"200 "}},
		{"HTTP/1.1 200 ||abc", api.OK, 1, []string{"200 abc"}},
		{"HTTP/1.1 100 ||HTTP/1.0 404 ||abcabcabc", api.OK, 1, []string{"100 ", "404 abcabcabc"}},
	} {
		r := newReader(t, 9, "GET", "GET")
		check(t, "Feed", r.Feed(lines(c.s)), api.OK)
		check(t, "End of "+c.s, r.End(), c.err)
		checkTells(t, r, c.asked, c.err, true)
		checkNext(t, r, c.want...)
		check(t, "Feed", r.Feed(""), api.ErrStream)
		check(t, "Feed", r.Feed("x"), api.ErrStream)
		check(t, "End", r.End(), api.ErrStream)
		checkTells(t, r, c.asked, c.err, true)
	}
}

// 12.7: what Parse says is what is wrong, and what was read ahead can still be taken.
func TestReaderFails(t *testing.T) {
	for _, c := range []struct {
		s   string
		err api.Errno
	}{
		{"HTTP/1.1 600 ", api.ErrReply},
		{"x", api.ErrReply},
		{"HTTP/1.1 200 |A b: c|", api.ErrName},
		{"HTTP/1.1 200 |Content-Length: 1|Transfer-Encoding: chunked||", api.ErrBoth},
		{"HTTP/1.1 200 |Content-Length: 10||", api.ErrLarge},
		{"HTTP/1.1 200 ||0123456789", api.ErrLarge},
		{"HTTP/1.1 200 |Transfer-Encoding: chunked||a|", api.ErrLarge},
		{"HTTP/1.1 200 |Transfer-Encoding: chunked||g|", api.ErrChunk},
		{"HTTP/1.1 200 |" + strings.Repeat("A: 1|", 101), api.ErrMany},
		{"HTTP/1.1 200 |A:" + strings.Repeat(" ", 65536), api.ErrLarge},
	} {
		ahead := "HTTP/1.1 204 ||HTTP/1.1 100 ||"
		r := newReader(t, 9, "PUT", "GET", "GET")
		check(t, c.s, r.Feed(lines(ahead+c.s)), c.err)
		checkTells(t, r, 2, c.err, false)
		for _, more := range []string{"", "x", lines("HTTP/1.1 204 ||")} {
			check(t, "Feed", r.Feed(more), api.ErrStream)
			checkTells(t, r, 2, c.err, false)
		}
		check(t, "End", r.End(), api.ErrStream)
		checkTells(t, r, 2, c.err, false)
		checkNext(t, r, "204 ", "100 ")
	}
}

// 12.10.
func TestNilReader(t *testing.T) {
	var r *message.Reader
	for range 2 {
		check(t, "Ask", r.Ask("GET"), api.OK)
		check(t, "Feed", r.Feed("x"), api.OK)
		checkTells(t, r, 0, api.OK, false)
		check(t, "End", r.End(), api.OK)
		checkTells(t, r, 0, api.OK, false)
		checkNext(t, r)
	}
}

// checkPieces asks, feeds pieces and ends, and holds the reader against the model behind each of them.
func checkPieces(t *testing.T, most int, methods []string, pieces ...string) {
	t.Helper()
	r := newReader(t, most, methods...)
	m := &modelReader{most: most, asked: slices.Clone(methods)}
	for i, s := range pieces {
		checkStep(t, pieces, r, m, r.Feed(s), m.feed(s), i%3 == 2)
	}
	checkStep(t, pieces, r, m, r.End(), m.end(), true)
	checkStep(t, pieces, r, m, r.Feed(""), m.feed(""), true)
}

func checkStep(t *testing.T, pieces []string, r *message.Reader, m *modelReader, got, want api.Errno, takes bool) {
	t.Helper()
	if got != want || r.Asked() != len(m.asked) || r.Err() != m.err || r.Over() != (m.over || m.ended) {
		t.Fatalf("%.500q: %d, Asked %d, Err %d, Over %v; want %d, %d, %d, %v", pieces, got, r.Asked(), r.Err(), r.Over(), want, len(m.asked), m.err, m.over || m.ended)
	}
	for takes {
		x, ok := r.Next()
		y, more := m.next()
		if ok != more || !sameReply(x, y) {
			t.Fatalf("%.500q: Next %s, %v; want %s, %v", pieces, show(x), ok, show(y), more)
		}
		takes = ok
	}
}

// some streams that have all that streams may have, to the methods of someMethods.
func some() []string {
	return []string{
		lines("HTTP/1.1 200 OK|Content-Length: 2||HTTP/1.1 100 ||HTTP/1.1 200 OK|Content-Length: 2||hiHTTP/1.1 404 ||ab\r\n"),
		lines("HTTP/1.1 304 |ETag: \"x\"||HTTP/1.1 200 |Transfer-Encoding: chunked||1|x|2;q|yz|0|T: 1||HTTP/1.1 101 ||ab"),
		lines("HTTP/1.0 200 |Connection: keep-alive||HTTP/1.1 204 |Connection: close||HTTP/1.1 200 ||"),
		lines("HTTP/1.1 200 ||HTTP/1.1 500 |Content-Length: 3||abcHTTP/1.1 204 ||HTTP/1.1 200 ||rest"),
		lines("HTTP/1.1 200 ||HTTP/1.1 500 |Content-Length: 3||abcHTTP/1.1 204 ||H"),
		lines("HTTP/1.1 200 ||HTTP/1.1 200 |Content-Length: 4|Connection: x||"),
		lines("HTTP/1.1 200 |A b: c|"),
	}
}

var someMethods = []string{"HEAD", "GET", "POST"}

// 12.7, 12.11: how a stream is cut has no part: byte by byte, and into three pieces in every way.
func TestCuts(t *testing.T) {
	for _, s := range some() {
		checkPieces(t, 3, someMethods, byBytes(s)...)
		checkPieces(t, 4, slices.Repeat(someMethods, 2), byBytes(s)...)
		for i := range len(s) + 1 {
			for k := i; k <= len(s); k++ {
				checkPieces(t, 3, someMethods, s[:i], s[i:k], s[k:])
			}
		}
	}
}

// 12.7: streams that come of one by a change of one byte, at once and byte by byte.
func TestReaderEdits(t *testing.T) {
	for _, s := range some() {
		for e := range edits(s, "\r\n :09x\x00") {
			checkPieces(t, 3, someMethods, e)
		}
		for e := range edits(s, "\n1") {
			checkPieces(t, 3, someMethods, byBytes(e)...)
		}
	}
}

// 12.7, 12.8: all streams of some messages and pieces of them, to some lists of methods.
func TestReaderAll(t *testing.T) {
	pieces := []string{
		"HTTP/1.1 100 \r\n\r\n", "HTTP/1.1 101 \r\n\r\n", "HTTP/1.1 204 \r\n\r\n", "HTTP/1.1 200 \r\n\r\n", "HTTP/1.0 304 \r\n\r\n",
		"HTTP/1.1 200 \r\nContent-Length: 1\r\n\r\nx", "HTTP/1.1 404 \r\nTransfer-Encoding: chunked\r\n\r\n0\r\n\r\n", "HTTP/1.1 404 \r\nContent-Length: 0\r\nConnection: close\r\n\r\n", "H",
	}
	for l := range lists(pieces, 4) {
		for _, methods := range [][]string{{"GET"}, {"HEAD", "GET"}, {"CONNECT", "GET", "GET", "GET"}, {"PUT", "CONNECT", "HEAD"}} {
			checkPieces(t, 9, methods, l...)
			checkPieces(t, 99, methods, strings.Join(l, ""))
		}
	}
}

// 12.6, 12.7: requests that are told of between Feeds.
func TestAskBetween(t *testing.T) {
	steps := []string{"ask GET", "ask HEAD", "HTTP/1.1 204 \r\n\r\n", "HTTP/1.1 200 \r\nContent-Length: 1\r\n\r\n", "x", "HTTP/1.1 100 \r\n\r\n", ""}
	for l := range lists(steps, 5) {
		r := newReader(t, 9)
		m := &modelReader{most: 9}
		for _, s := range l {
			if method, asks := strings.CutPrefix(s, "ask "); asks {
				checkStep(t, l, r, m, r.Ask(method), m.ask(method), false)
			} else {
				checkStep(t, l, r, m, r.Feed(s), m.feed(s), false)
			}
		}
		checkStep(t, l, r, m, r.End(), m.end(), true)
	}
}

// 12.11: a text of several Prints, none of which closes, is read as just these, in their order.
func TestPrintsInARow(t *testing.T) {
	all := ""
	var methods, want []string
	for i, status := range []int{200, 100, 204, 404, 304, 102, 500, 299, 200, 403} {
		method := []string{"GET", "HEAD", "POST"}[i%3]
		how := api.Manner{Method: method, Chunked: i%4 == 0 && status != 304, Old: i%4 == 1}
		body := "body of " + method
		if modelNever(status) {
			body = ""
		}
		s, err := message.Print(response(status, body, fieldA), how)
		if err != api.OK {
			t.Fatal("Print:", err)
		}
		all += s
		if modelBodyless(method, status) {
			body = ""
		}
		want = append(want, fmt.Sprint(status, " ", body))
		if !message.Interim(status) {
			methods = append(methods, method)
		}
	}
	for size := 1; size <= len(all); size += 1 + size/5 {
		r := newReader(t, 20, methods...)
		for piece := range slices.Chunk([]byte(all), size) {
			check(t, "Feed", r.Feed(string(piece)), api.OK)
		}
		checkTells(t, r, 0, api.OK, false)
		check(t, "End", r.End(), api.OK)
		checkNext(t, r, want...)
	}
}

// R1: long streams byte by byte take no longer than their length asks for.
func TestReaderLong(t *testing.T) {
	const n = 1 << 20
	body := strings.Repeat("0123456789abcde\n", n/16)
	for _, s := range []string{
		"HTTP/1.1 200 |Content-Length: 1048576||" + body,
		"HTTP/1.1 200 ||" + body,
		"HTTP/1.1 200 |Transfer-Encoding: chunked||100000|" + body + "|0||",
	} {
		s = lines(s)
		r := newReader(t, n, "GET")
		for i := range len(s) {
			if err := r.Feed(s[i : i+1]); err != api.OK {
				t.Fatal("Feed:", i, err)
			}
		}
		check(t, "End", r.End(), api.OK)
		checkNext(t, r, "200 "+body)
	}
	// Many interim responses, none of them taken till all are there.
	r := newReader(t, 0, "GET")
	check(t, "Feed", r.Feed(strings.Repeat("HTTP/1.1 100 \r\n\r\n", n/16)), api.OK)
	for range n / 16 {
		if _, ok := r.Next(); !ok {
			t.Fatal("Next: nothing")
		}
	}
	checkNext(t, r)
}
