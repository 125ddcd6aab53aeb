package socket_test

import (
	"math"
	"strings"
	"sync"
	"testing"

	"turnpike/api"
	"turnpike/socket"
)

// R5: peers know nothing of one another.
func TestPeersAreApart(t *testing.T) {
	texts := []string{
		sent(0x01, "abc") + sent(0x89, "p") + sent(0x80, "d") + sent(0x88, ""),
		sent(0x82, "\xff\xfe") + sent(0x02, "xy") + sent(0x80, "z"),
		sent(0x01, "\xc3") + sent(0x80, "(") + sent(0x81, "a"),
		sent(0x82, strings.Repeat("1", 10)),
	}
	peers, said := make([]*socket.Peer, len(texts)), make([]string, len(texts))
	for i := range texts {
		peers[i] = newPeer(t, 9)
	}
	for n := range 60 {
		for i, s := range texts {
			if n < len(s) {
				said[i] += peers[i].Feed(s[n : n+1])
			}
		}
	}
	for i, s := range texts {
		checkTold(t, peers[i], said[i], modelPeer(9, s))
	}
}

// R5: what is answered does not hang on what was asked ahead, nor on what is asked at the same time.
func TestCallsAreApart(t *testing.T) {
	var all sync.WaitGroup
	for i := range 8 {
		all.Go(func() {
			for range 50 {
				checkPrint(t, api.Frame{Fin: true, Op: api.OpText, Body: "Hi"}, "\x81\x02Hi", api.OK)
				checkParse(t, "\x81\x02Hix", 9, api.Frame{Fin: true, Op: api.OpText, Body: "Hi"}, 4, api.OK)
				checkParse(t, "\x81\x02Hix", 1, api.Frame{}, 0, api.ErrSize)
				checkMask(t, "Hi", "\x01\x02\x03\x04", "\x49\x6b")
				checkPrintClose(t, 1000, "bye", "\x03\xe8bye", api.OK)
				checkParseClose(t, "\x03", 0, "", api.ErrClose)
				r := newSome(uint64(100 + i))
				s := r.row()
				o := modelPeer(126, s)
				if said, closed := socket.Whole(126, s); said != o.said || closed != o.closed {
					t.Errorf("Whole(126, %q): %q, %v; want %v", s, said, closed, o)
				}
			}
		})
	}
	all.Wait()
}

// R4: what was said stays as it was, whatever comes behind it.
func TestSaidStays(t *testing.T) {
	p := newPeer(t, 300)
	var said, want []string
	for i := range 200 {
		body := strings.Repeat(string([]byte{'a' + byte(i%26)}), i)
		said, want = append(said, p.Feed(sent(0x02, body[:i/2])+sent(0x80, body[i/2:]))), append(want, modelSay(2, body))
	}
	for i := range want {
		if said[i] != want[i] {
			t.Fatalf("what was said to message %d: %q", i, said[i])
		}
	}
}

// R6: a message of MaxMessage bytes is said, and one byte more is too long.
func TestMaxMessage(t *testing.T) {
	body := strings.Repeat("0123456789abcdef", api.MaxMessage/16)
	p := newPeer(t, api.MaxMessage)
	in := sent(0x82, body)
	checkFeed(t, p, in[:len(in)-1], "")
	checkTold(t, p, "", outcome{held: len(in) - 1})
	checkFeed(t, p, in[len(in)-1:], "\x82\x7f\x00\x00\x00\x00\x01\x00\x00\x00"+body)
	checkFeed(t, p, sent(0x01, body[1:])+sent(0x00, "x"), "")
	checkTold(t, p, "", outcome{held: api.MaxMessage, echoed: 1})
	checkFeed(t, p, sent(0x80, ""), "\x81\x7f\x00\x00\x00\x00\x01\x00\x00\x00"+body[1:]+"x")
	checkTold(t, p, "", outcome{echoed: 2})
	checkFeed(t, p, "\x82\xff\x00\x00\x00\x00\x01\x00\x00\x01abcd", "\x88\x02\x03\xf1")
	checkTold(t, p, "", outcome{closed: true, code: 1009, echoed: 2})
}

// R1: a message in very many parts, and a very long row of frames, byte by byte.
func TestLongRows(t *testing.T) {
	const n = 200000
	p := newPeer(t, n)
	checkFeed(t, p, sent(0x01, "")+strings.Repeat(sent(0x00, "a"), n), "")
	checkTold(t, p, "", outcome{held: n})
	checkFeed(t, p, strings.Repeat(sent(0x89, ""), n), strings.Repeat("\x8a\x00", n))
	checkFeed(t, p, sent(0x80, ""), modelSay(1, strings.Repeat("a", n)))
	said := 0
	for _, c := range strings.Split(strings.Repeat(sent(0x82, "b"), n), "") {
		said += len(p.Feed(c))
	}
	if said != 3*n || p.Echoed() != n+1 {
		t.Error("byte by byte:", said, p.Echoed())
	}
}

// R1, R2: nothing panics, and beside an error every other result is zero.
func TestNothingPanics(t *testing.T) {
	r := newSome(6)
	for range 20000 {
		s := r.text(r.IntN(30))
		f, n, err := socket.Parse(s, []int{math.MinInt, -1, 0, 5, math.MaxInt}[r.IntN(5)])
		if err != api.OK && (f != api.Frame{} || err != api.ErrPartial && n != 0) {
			t.Fatalf("Parse(%q): %s, %d, %d", s, show(f), n, err)
		}
		socket.Print(api.Frame{Fin: r.IntN(2) == 0, Masked: r.IntN(2) == 0, Op: r.IntN(20) - 4, Mask: s[:min(len(s), r.IntN(6))], Body: s})
		socket.Mask(s, s[:min(len(s), 4)])
		socket.ParseClose(s)
		socket.PrintClose(r.IntN(6000)-100, s)
		if said, closed := socket.Whole(r.IntN(50), s); closed && said == "" {
			t.Fatalf("Whole(%q): nothing, and closed", s)
		}
	}
}
