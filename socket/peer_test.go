package socket_test

import (
	"math"
	"strings"
	"testing"

	"turnpike/api"
	"turnpike/socket"
)

func newPeer(t *testing.T, most int) *socket.Peer {
	t.Helper()
	p, err := socket.New(most)
	if p == nil || err != api.OK {
		t.Fatalf("New(%d): %v, %d", most, p, err)
	}
	return p
}

// sent is a frame as a client sends it: masked.
func sent(first byte, body string) string {
	return modelFrame(first, body, "\x01\x02\x03\x04")
}

func modelFrame(first byte, body, mask string) string {
	length := modelLength(len(body))
	return string([]byte{first, length[0] + 128}) + length[1:] + mask + modelMask(body, mask)
}

// told is what a peer tells now, with what it has said.
func told(p *socket.Peer, said string) outcome {
	return outcome{said, p.Closed(), p.Code(), p.Held(), p.Echoed()}
}

func checkTold(t *testing.T, p *socket.Peer, said string, want outcome) {
	t.Helper()
	for range 2 { // being asked changes nothing
		if got := told(p, said); got != want {
			t.Fatalf("the peer tells %v; want %v", got, want)
		}
	}
}

func checkFeed(t *testing.T, p *socket.Peer, s, want string) {
	t.Helper()
	if got := p.Feed(s); got != want {
		t.Errorf("Feed(%.100q): %.100q of %d; want %.100q of %d", s, got, len(got), want, len(want))
	}
}

// checkCut feeds pieces, and holds the peer against the model of what came so far, behind each of them.
func checkCut(t *testing.T, most int, pieces []string) {
	t.Helper()
	p := newPeer(t, most)
	all, said := "", ""
	for _, s := range pieces {
		all += s
		said += p.Feed(s)
		if got, want := told(p, said), modelPeer(most, all); got != want {
			t.Fatalf("peer of %d, %.60q behind %.300q of %d: %v; want %v", most, s, all, len(all), got, want)
		}
	}
}

// checkText holds a text against the model, at once and byte by byte, and is what the model tells.
func checkText(t *testing.T, most int, s string) outcome {
	t.Helper()
	want := modelPeer(most, s)
	if said, closed := socket.Whole(most, s); said != want.said || closed != want.closed {
		t.Fatalf("Whole(%d, %.300q): %.100q, %v; want %v", most, s, said, closed, want)
	}
	checkCut(t, most, []string{s, "", "x", s})
	checkCut(t, most, strings.Split(s, ""))
	return want
}

// checkSaid holds what is said to a text against literal bytes, and all else against the model.
func checkSaid(t *testing.T, most int, s, want string, wantCode int) {
	t.Helper()
	if o := checkText(t, most, s); o.said != want || o.code != wantCode {
		t.Errorf("peer of %d, %.100q: %v; want %.100q and the code %d", most, s, o, want, wantCode)
	}
}

// 22.4: a peer's most is 0 to MaxMessage.
func TestNew(t *testing.T) {
	for _, most := range []int{math.MinInt, -2, -1, 16777217, 16777218, math.MaxInt} {
		if p, err := socket.New(most); p != nil || err != api.ErrArg {
			t.Errorf("New(%d): %v, %d", most, p, err)
		}
		if s, closed := socket.Whole(most, "\x81\x00"); s != "" || closed {
			t.Errorf("Whole(%d): %q, %v", most, s, closed)
		}
	}
	for _, most := range []int{0, 1, 65536, 16777215, 16777216} {
		checkTold(t, newPeer(t, most), "", outcome{})
		if s, closed := socket.Whole(most, "\x81\x00"); s != "\x88\x02\x03\xea" || !closed {
			t.Errorf("Whole(%d): %q, %v", most, s, closed)
		}
	}
}

// 22.4: each message is said, as one frame of its first frame's kind.
func TestMessages(t *testing.T) {
	p := newPeer(t, 9)
	checkFeed(t, p, sent(0x81, "Hi"), "\x81\x02Hi")
	checkTold(t, p, "", outcome{echoed: 1})
	checkFeed(t, p, sent(0x01, "Hi"), "")
	checkTold(t, p, "", outcome{held: 2, echoed: 1})
	checkFeed(t, p, sent(0x80, "!"), "\x81\x03Hi!")
	checkTold(t, p, "", outcome{echoed: 2})
	checkFeed(t, p, sent(0x82, "\xff\x00")+sent(0x81, "")+sent(0x02, "\xc3"), "\x82\x02\xff\x00\x81\x00")
	checkFeed(t, p, sent(0x00, "")+sent(0x00, "(")+sent(0x80, ""), "\x82\x02\xc3(")
	checkTold(t, p, "", outcome{echoed: 5})
	checkSaid(t, 9, sent(0x01, "\xc3")+sent(0x80, "\xa4"), "\x81\x02\xc3\xa4", 0)
	checkSaid(t, 0, sent(0x81, "")+sent(0x02, "")+sent(0x80, ""), "\x81\x00\x82\x00", 0)
	checkSaid(t, 126, sent(0x82, strings.Repeat("b", 126)), "\x82\x7e\x00\x7e"+strings.Repeat("b", 126), 0)
	checkSaid(t, 126, sent(0x02, strings.Repeat("b", 125))+sent(0x80, "b"), "\x82\x7e\x00\x7e"+strings.Repeat("b", 126), 0)
}

// 22.4: pings are answered between a message's parts, pongs are let be; neither is held against most.
func TestPings(t *testing.T) {
	p := newPeer(t, 0)
	checkFeed(t, p, sent(0x89, "ping"), "\x8a\x04ping")
	checkFeed(t, p, sent(0x89, ""), "\x8a\x00")
	checkFeed(t, p, sent(0x89, strings.Repeat("p", 125)), "\x8a\x7d"+strings.Repeat("p", 125))
	checkFeed(t, p, sent(0x8a, "pong")+sent(0x8a, strings.Repeat("p", 125)), "")
	checkTold(t, p, "", outcome{})
	checkSaid(t, 2, sent(0x01, "a")+sent(0x89, "1")+sent(0x8a, "2")+sent(0x80, "b")+sent(0x89, "\xff"), "\x8a\x011\x81\x02ab\x8a\x01\xff", 0)
}

// 22.4: a close frame is answered by one with the same code and no reason.
func TestClose(t *testing.T) {
	checkSaid(t, 9, sent(0x88, "\x03\xe8"), "\x88\x02\x03\xe8", 1000)
	checkSaid(t, 9, sent(0x88, "\x13\x87bye"), "\x88\x02\x13\x87", 4999)
	checkSaid(t, 0, sent(0x88, "\x03\xe9"+strings.Repeat("r", 123)), "\x88\x02\x03\xe9", 1001)
	checkSaid(t, 9, sent(0x88, ""), "\x88\x00", 1005)
	checkSaid(t, 9, sent(0x88, "\x03"), "\x88\x02\x03\xea", 1002)
	checkSaid(t, 9, sent(0x88, "\x03\xed"), "\x88\x02\x03\xea", 1002)
	checkSaid(t, 9, sent(0x88, "\x00\x00"), "\x88\x02\x03\xea", 1002)
	checkSaid(t, 9, sent(0x88, "\x03\xed\xff"), "\x88\x02\x03\xea", 1002)
	checkSaid(t, 9, sent(0x88, "\x03\xe8\xff"), "\x88\x02\x03\xef", 1007)
	checkSaid(t, 9, sent(0x88, "\x03\xef"), "\x88\x02\x03\xef", 1007)
	checkSaid(t, 9, sent(0x88, "\x03\xeaab"), "\x88\x02\x03\xea", 1002)
	checkSaid(t, 9, sent(0x01, "a")+sent(0x88, "\x03\xe8")+sent(0x80, "b"), "\x88\x02\x03\xe8", 1000)
	checkSaid(t, 9, sent(0x81, "a")+sent(0x88, "")+sent(0x81, "b"), "\x81\x01a\x88\x00", 1005)
}

// 22.4: what is wrong with a head is told as soon as that is there.
func TestWrongHeads(t *testing.T) {
	for _, head := range []string{
		"\xc1\x80abcd", "\xa1\x80abcd", "\x91\x80abcd", "\x83\x80abcd", "\x8b\x80abcd", "\x8f\x80abcd", // no such bit, no such kind
		"\x08\x80abcd", "\x09\x80abcd", "\x0a\x80abcd", "\x89\xfe\x00\x7eabcd", "\x89\xff\x00\x00\x00\x00\x00\x00\x00\x01abcd", // control frames
		"\x81\x00", "\x81\x01", "\x81\x7d", "\x88\x00", "\x89\x05", "\x8a\x00", "\x82\x7e\x00\x7e", // not masked
		"\x81\xfe\x00\x7dabcd", "\x81\xff\x00\x00\x00\x00\x00\x00\xff\xffabcd", "\x81\xff\x00\x00\x00\x00\x00\x00\x00\x00abcd", // not the shortest form
		"\x80\x80abcd", "\x00\x80abcd", "\x80\x85abcd", // no message has begun
		"\x80\xff\xff\xff\xff\xff\xff\xff\xff\xffabcd", "\x81\x7f\xff\xff\xff\xff\xff\xff\xff\xff", // too long besides
	} {
		checkSaid(t, 9, head[:len(head)-1], "", 0)
		checkSaid(t, 9, head, "\x88\x02\x03\xea", 1002)
		checkSaid(t, 9, sent(0x81, "Hi")+head+sent(0x81, "Hi"), "\x81\x02Hi\x88\x02\x03\xea", 1002)
	}
	for _, head := range []string{"\x81\x80abcd", "\x01\x80abcd", "\x82\x85abcd", "\x02\xff\xff\xff\xff\xff\xff\xff\xff\xffabcd"} { // one has begun
		checkSaid(t, 9, sent(0x01, "")+head[:len(head)-1], "", 0)
		checkSaid(t, 9, sent(0x01, "a")+head, "\x88\x02\x03\xea", 1002)
		checkSaid(t, 9, sent(0x02, "a")+sent(0x00, "b")+sent(0x89, "")+head, "\x8a\x00\x88\x02\x03\xea", 1002)
	}
	checkSaid(t, 9, sent(0x02, "a")+sent(0x80, "b")+"\x80\x80abcd", "\x82\x02ab\x88\x02\x03\xea", 1002)
}

// 22.4: a message has at most most bytes, all its parts together; that is told as soon as the head is there.
func TestLarge(t *testing.T) {
	const large = "\x88\x02\x03\xf1"
	checkSaid(t, 9, sent(0x82, "123456789"), "\x82\x09123456789", 0)
	checkSaid(t, 9, sent(0x82, "1234567890")[:5], "", 0)
	checkSaid(t, 9, sent(0x82, "1234567890")[:6], large, 1009)
	checkSaid(t, 0, sent(0x81, "1")[:6], large, 1009)
	checkSaid(t, 9, sent(0x02, "1234567890")[:6], large, 1009)
	checkSaid(t, 9, sent(0x02, "12345")+sent(0x00, "6789")+sent(0x80, ""), "\x82\x09123456789", 0)
	checkSaid(t, 9, sent(0x02, "12345")+sent(0x00, "67890")[:6], large, 1009)
	checkSaid(t, 9, sent(0x02, "12345")+sent(0x00, "6789")+sent(0x89, "ping")+sent(0x80, "0"), "\x8a\x04ping"+large, 1009)
	checkSaid(t, 9, sent(0x02, "12345")+sent(0x80, "6789")+sent(0x82, "123456789"), "\x82\x09123456789\x82\x09123456789", 0)
	checkSaid(t, 9, "\x82\xff\x80\x00\x00\x00\x00\x00\x00\x00abcd", large, 1009)
	checkSaid(t, 9, "\x82\xff\xff\xff\xff\xff\xff\xff\xff\xffabcd", large, 1009)
	checkSaid(t, 9, sent(0x02, "123456789")+"\x80\xff\xff\xff\xff\xff\xff\xff\xff\xffabcd", large, 1009)
	checkSaid(t, 200, sent(0x82, strings.Repeat("b", 201))[:8], large, 1009)
}

// 22.4: a text is held to be one when it has ended, and only a text.
func TestNoText(t *testing.T) {
	const none = "\x88\x02\x03\xef"
	checkSaid(t, 9, sent(0x81, "\xff"), none, 1007)
	checkSaid(t, 9, sent(0x81, "a\xc3"), none, 1007)
	checkSaid(t, 9, sent(0x01, "\xff"), "", 0)
	checkSaid(t, 9, sent(0x01, "\xff")+sent(0x00, "a")+sent(0x89, ""), "\x8a\x00", 0)
	checkSaid(t, 9, sent(0x01, "\xff")+sent(0x80, "a")+sent(0x81, "b"), none, 1007)
	checkSaid(t, 9, sent(0x01, "\xc3")+sent(0x80, "("), none, 1007)
	checkSaid(t, 9, sent(0x81, "b")+sent(0x81, "\xed\xa0\x80"), "\x81\x01b"+none, 1007)
	checkSaid(t, 9, sent(0x02, "\xff")+sent(0x80, "\xff"), "\x82\x02\xff\xff", 0)
	checkSaid(t, 9, sent(0x01, "ok")+sent(0x80, "")+sent(0x82, "\xff"), "\x81\x02ok\x82\x01\xff", 0)
}

// 22.5: how much is held, byte by byte.
func TestHeld(t *testing.T) {
	p := newPeer(t, 300)
	long := strings.Repeat("l", 200)
	in := sent(0x01, "abc") + sent(0x89, "ping") + sent(0x00, long) + sent(0x80, "d")
	want := 0
	step := func(n, to int) { // n bytes are held besides, and behind the last one as many as that
		for i := range n {
			checkFeed(t, p, in[:1], "")
			in = in[1:]
			want++
			if i == n-1 {
				want = to
			}
			if p.Held() != want {
				t.Fatalf("Held: %d; want %d", p.Held(), want)
			}
		}
	}
	step(9, 3)
	step(9, 12)
	checkFeed(t, p, in[:1], "\x8a\x04ping")
	in = in[1:]
	if want = 3; p.Held() != want {
		t.Fatal("Held behind a ping:", p.Held())
	}
	step(208, 203)
	step(6, 209)
	checkFeed(t, p, in, "\x81\x7e\x00\xccabc"+long+"d")
	checkTold(t, p, "", outcome{echoed: 1})
	checkFeed(t, p, sent(0x02, "xyz")+sent(0x00, "abc")[:7], "")
	checkTold(t, p, "", outcome{held: 10, echoed: 1})
	checkFeed(t, p, "\x00\x00", "")
	checkTold(t, p, "", outcome{held: 6, echoed: 1})
	checkFeed(t, p, "\x81\x00", "\x88\x02\x03\xea")
	checkTold(t, p, "", outcome{closed: true, code: 1002, echoed: 1})
}

// 22.4: what comes when it is closed is let go.
func TestClosedForGood(t *testing.T) {
	for _, end := range []string{"\x81\x00", sent(0x88, ""), sent(0x88, "\x03\xe8"), sent(0x80, "\xff"), sent(0x80, "1234567890")} {
		p := newPeer(t, 9)
		checkFeed(t, p, sent(0x81, "a")+sent(0x01, "b")+end[:1], "\x81\x01a")
		p.Feed(end[1:])
		want := told(p, "")
		if !want.closed || want.held != 0 || want.echoed != 1 {
			t.Fatalf("the peer tells %v", want)
		}
		for _, s := range []string{"", "x", sent(0x81, "c"), sent(0x89, ""), sent(0x88, "\x03\xe9"), strings.Repeat("\xff", 1000)} {
			checkFeed(t, p, s, "")
			checkTold(t, p, "", want)
		}
	}
}

// 22.6: a nil Peer.
func TestNilPeer(t *testing.T) {
	var p *socket.Peer
	checkFeed(t, p, sent(0x81, "a"), "")
	checkTold(t, p, "", outcome{})
}

// A Peer that New did not make answers as a nil one does.
func TestEmptyPeer(t *testing.T) {
	p := new(socket.Peer)
	checkFeed(t, p, sent(0x81, "")+sent(0x88, ""), "")
	checkTold(t, p, "", outcome{})
}
