package socket_test

import (
	"math/rand/v2"
	"slices"
	"strings"
	"testing"

	"turnpike/api"
	"turnpike/socket"
)

// some is a row of things from a fixed seed.
type some struct{ *rand.Rand }

func newSome(seed uint64) some { return some{rand.New(rand.NewPCG(seed, 22))} }

// text is characters of a few lengths, of which the last one may be cut off, or bytes of which each one may be any.
func (r some) text(n int) string {
	if r.IntN(8) == 0 {
		b := make([]byte, n)
		for i := range b {
			b[i] = byte(r.IntN(256))
		}
		return string(b)
	}
	return strings.Repeat([]string{"a", "a", "b", "\xc3\xa4", "\xe2\x82\xac", "\xf0\x9f\x98\x80"}[r.IntN(6)], n)[:n]
}

func (r some) mask() string {
	return string([]byte{byte(r.IntN(256)), byte(r.IntN(256)), 0, byte(r.IntN(4))})
}

func (r some) size() int {
	if r.IntN(9) == 0 {
		return 120 + r.IntN(12)
	}
	return r.IntN(6)
}

// control is a control frame that closes nothing.
func (r some) control() string {
	return modelFrame([]byte{0x89, 0x8a}[r.IntN(2)], r.text(r.IntN(126)), r.mask())
}

// message is a message in parts, with control frames between.
func (r some) message(first byte, body string) string {
	s := ""
	for {
		for r.IntN(4) == 0 {
			s += r.control()
		}
		n := r.IntN(len(body) + 1)
		if r.IntN(3) == 0 {
			return s + modelFrame(first+128, body, r.mask())
		}
		s += modelFrame(first, body[:n], r.mask())
		first, body = 0, body[n:]
	}
}

// close is a close frame, of whichever body.
func (r some) close() string {
	body := r.text(r.size() * r.IntN(2))
	if r.IntN(4) > 0 {
		code := 998 + r.IntN(16)
		body = string([]byte{byte(code / 256), byte(code % 256)}) + body[:min(len(body), 123)]
	}
	return modelFrame(0x88, body, r.mask())
}

// anything is a frame of which each part may be wrong.
func (r some) anything() string {
	s := modelFrame(byte(r.IntN(256)), r.text(r.size()), r.mask())
	switch r.IntN(3) {
	case 0:
		at := r.IntN(len(s))
		return s[:at] + string([]byte{byte(r.IntN(256))}) + s[at+1:]
	case 1:
		return s[:r.IntN(len(s))]
	}
	return s
}

// row is what a client sends: mostly right, with something else in some places.
func (r some) row() string {
	s := ""
	for range r.IntN(6) {
		switch r.IntN(12) {
		case 0:
			s += r.close()
		case 1:
			s += r.anything()
		default:
			s += r.message(byte(1+r.IntN(2)), r.text(r.size()))
		}
	}
	return s
}

// pieces is a text cut at some places.
func (r some) pieces(s string) []string {
	var l []string
	for s != "" {
		n := 1 + r.IntN(min(len(s), 1+r.IntN(40)))
		l = append(l, s[:n])
		s = s[n:]
	}
	return l
}

// 22.4, 22.5, 22.6, 22.7: rows of frames, however they are cut.
func TestSomeRows(t *testing.T) {
	codes := map[int]int{}
	r := newSome(1)
	for range 6000 {
		most := []int{0, 3, 125, 126, 300}[r.IntN(5)]
		s := r.row()
		o := modelPeer(most, s)
		codes[o.code]++
		if said, closed := socket.Whole(most, s); said != o.said || closed != o.closed {
			t.Fatalf("Whole(%d, %.300q): %.100q, %v; want %v", most, s, said, closed, o)
		}
		checkCut(t, most, r.pieces(s))
		checkCut(t, most, []string{s, s})
	}
	for _, code := range []int{0, 1000, 1002, 1003, 1005, 1007, 1009, 1011} {
		if codes[code] < 10 {
			t.Errorf("the rows end too seldom with %d: %v", code, codes)
		}
	}
}

// 22.4, 22.7: each row of at most four of some frames, at once and byte by byte.
func TestShortRows(t *testing.T) {
	frames := []string{
		sent(0x81, "a"), sent(0x82, "\xff"), sent(0x01, "\xc3"), sent(0x02, ""), sent(0x00, "\xa4"), sent(0x80, "bc"), sent(0x80, ""),
		sent(0x89, "p"), sent(0x8a, ""), sent(0x88, "\x03\xe8"), sent(0x81, "abcd"), "\x81\x00",
	}
	var all func(s string, n int)
	all = func(s string, n int) {
		for _, most := range []int{1, 3} {
			if o := modelPeer(most, s); o.closed && n > 0 {
				checkText(t, most, s+frames[0])
			} else {
				checkText(t, most, s)
			}
		}
		if n > 0 {
			for _, f := range frames {
				all(s+f, n-1)
			}
		}
	}
	all("", 4)
}

// 22.4, 22.7: each change of one byte in a row, and each cut of it into three.
func TestChangesAndCuts(t *testing.T) {
	row := sent(0x01, "\xc3") + sent(0x89, "p") + sent(0x80, "\xa4") + sent(0x82, "bb") + sent(0x88, "\x03\xe8r")
	for at := range len(row) {
		for c := range 256 {
			s := row[:at] + string([]byte{byte(c)}) + row[at+1:]
			o := modelPeer(4, s)
			if said, closed := socket.Whole(4, s); said != o.said || closed != o.closed {
				t.Fatalf("Whole(4, %q): %q, %v; want %v", s, said, closed, o)
			}
			checkParseModel(t, s[at:], 4)
		}
		for other := at; other < len(row); other++ {
			checkCut(t, 4, []string{row[:at], row[at:other], row[other:]})
		}
	}
}

// 22.2: Parse of bytes of whichever kind.
func TestSomeParses(t *testing.T) {
	r := newSome(2)
	for range 60000 {
		s := r.anything() + r.text(r.IntN(20))
		checkParseModel(t, s, []int{-1, 0, 3, 125, 126, 300, 70000}[r.IntN(7)])
	}
}

// framesOf is the frames of what a peer says, by Parse.
func framesOf(t *testing.T, said string) []api.Frame {
	t.Helper()
	var l []api.Frame
	for said != "" {
		f, n, err := socket.Parse(said, api.MaxMessage)
		if err != api.OK {
			t.Fatalf("Parse(%.60q): %d", said, err)
		}
		l = append(l, f)
		said = said[n:]
	}
	return l
}

// 22.7: what a peer says is frames that are Fin and not masked, of which OpClose is the last; what it says to a beginning is a beginning.
func TestSaidIsFrames(t *testing.T) {
	r := newSome(3)
	for range 2000 {
		s := r.row() + r.close()
		said, closed := socket.Whole(300, s)
		l := framesOf(t, said)
		for i, f := range l {
			if !f.Fin || f.Masked || f.Op == api.OpClose && i != len(l)-1 || f.Op == api.OpMore || f.Op == api.OpPing {
				t.Fatalf("frame %d of %d: %s", i, len(l), show(f))
			}
		}
		if ends := len(l) > 0 && l[len(l)-1].Op == api.OpClose; ends != closed {
			t.Fatalf("closed %v, but %d frames of %q", closed, len(l), said)
		}
		begin, _ := socket.Whole(300, s[:r.IntN(len(s)+1)])
		if !strings.HasPrefix(said, begin) {
			t.Fatalf("Whole(%q): %q, which does not begin with %q", s, said, begin)
		}
	}
}

// 22.7: cutting messages into parts, with pings and pongs between, leaves the messages as they are.
func TestPartsAreNotSeen(t *testing.T) {
	r := newSome(4)
	for range 2000 {
		var plain, parts string
		for range 1 + r.IntN(4) {
			kind, body := byte(1+r.IntN(2)), r.text(r.size())
			plain += modelFrame(kind+128, body, r.mask())
			parts += r.message(kind, body)
		}
		want, _ := socket.Whole(200, plain)
		said, _ := socket.Whole(200, parts)
		l := slices.DeleteFunc(framesOf(t, said), func(f api.Frame) bool { return f.Op == api.OpPong })
		if !slices.Equal(l, framesOf(t, want)) {
			t.Fatalf("%q and %q: %q and %q", plain, parts, want, said)
		}
	}
}

// 22.7: a peer holds at most most bytes, and those of one frame's head and body.
func TestHoldsLittle(t *testing.T) {
	r := newSome(5)
	for range 500 {
		const most = 130
		p := newPeer(t, most)
		for _, c := range strings.Split(r.row(), "") {
			p.Feed(c)
			if p.Held() > most+14+most {
				t.Fatal("Held:", p.Held())
			}
		}
	}
}
