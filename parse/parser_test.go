package parse_test

import (
	"slices"
	"strings"
	"testing"

	"turnpike/api"
	"turnpike/parse"
)

func newParser(t *testing.T, l api.Limits) *parse.Parser {
	t.Helper()
	p, err := parse.New(l)
	if p == nil || err != api.OK {
		t.Fatalf("New(%v): %v, %d", l, p != nil, err)
	}
	return p
}

func checkFeed(t *testing.T, p *parse.Parser, s string, want int) {
	t.Helper()
	if n := p.Feed(s); n != want {
		t.Errorf("Feed(%.300q): %d; want %d", s, n, want)
	}
}

// says is what a parser says of itself now.
func says(p *parse.Parser) said {
	a := said{state: p.State(), used: p.Used(), waits: p.Waits()}
	a.head, a.hasHead = p.Head()
	a.request, a.hasRequest = p.Request()
	a.fault, a.hasFault = p.Fault()
	return a
}

func checkSaid(t *testing.T, p *parse.Parser, want said) {
	t.Helper()
	for range 2 { // being asked changes nothing
		if got := says(p); !got.equal(want) {
			t.Errorf("the parser says %v; want %v", got, want)
		}
	}
}

// checkPieces feeds pieces, and holds the parser against the model of what came so far, behind each of them.
func checkPieces(t *testing.T, l api.Limits, pieces ...string) {
	t.Helper()
	p := newParser(t, l)
	feedPieces(t, p, l, pieces...)
}

func feedPieces(t *testing.T, p *parse.Parser, l api.Limits, pieces ...string) {
	t.Helper()
	all := ""
	before := modelSaid(l, all)
	if got := says(p); !got.equal(before) {
		t.Fatalf("a parser that has taken nothing says %v; want %v", got, before)
	}
	for _, s := range pieces {
		all += s
		after := modelSaid(l, all)
		n := p.Feed(s)
		if got := says(p); n != after.used-before.used || !got.equal(after) {
			t.Fatalf("Feed(%.100q) of %.500q with %v: %d, %v; want %d, %v", s, pieces, l, n, got, after.used-before.used, after)
		}
		before = after
	}
}

// checkText holds Whole of a text, and a parser that is fed it at once and byte by byte, against the model.
func checkText(t *testing.T, l api.Limits, s string) {
	t.Helper()
	checkWhole(t, l, s, modelWhole(l, s))
	checkPieces(t, l, s, "\r\n")
	p := newParser(t, l)
	for i := range len(s) {
		p.Feed(s[i : i+1])
	}
	if got, want := says(p), modelSaid(l, s); !got.equal(want) {
		t.Fatalf("fed %.300q byte by byte with %v: %v; want %v", s, l, got, want)
	}
}

// some requests that have all that requests may have.
func some() []string {
	return []string{
		lines("GET / HTTP/1.0||"),
		lines("||OPTIONS * HTTP/1.1|Host:|A: b\t c ||"),
		lines("PUT /a%20b?c=d HTTP/1.1|Host: a:80|Expect: 100-continue|Content-Length: 3||a\rb"),
		lines("POST / HTTP/1.1|Host: a|Transfer-Encoding: chunked|expect: 100-Continue||1|x|2;q|yz|0|T: 1||"),
		lines("|CONNECT a:1 HTTP/1.0|Content-Length: 0||"),
	}
}

// 11.4 to 11.6, 11.10: what a parser says behind each byte.
func TestByteByByte(t *testing.T) {
	for _, s := range some() {
		checkPieces(t, usual(), strings.Split(runes(s), "")...)
	}
}

// 11.3, 11.10: requests cut into three pieces in every way, with what stands behind them.
func TestCuts(t *testing.T) {
	for _, s := range some() {
		s += "\r\nGET"
		for i := range len(s) + 1 {
			for k := i; k <= len(s); k++ {
				checkPieces(t, usual(), s[:i], s[i:k], s[k:])
			}
		}
	}
}

// 11.2, 11.10: all texts that come of a request by a change of one byte.
func TestEdits(t *testing.T) {
	narrower := api.Limits{Target: 9, Head: 60, Fields: 3, Body: 3}
	for _, s := range some() {
		for e := range edits(s, everyByte()) {
			checkWhole(t, usual(), e, modelWhole(usual(), e))
		}
		for e := range edits(s, "\r\n :0/x,\x00\xff") {
			checkText(t, usual(), e)
			checkText(t, narrower, e)
		}
	}
}

// 11.2, 11.10: all texts of a few pieces, with limits that they come up to.
func TestTexts(t *testing.T) {
	limits := []api.Limits{usual(), {Target: 1, Head: 2, Fields: 0, Body: 0}, {Target: 2, Head: 9, Fields: 1, Body: 1}}
	check := func(s string) {
		for _, l := range limits {
			checkText(t, l, s)
		}
	}
	for s := range texts([]string{"\r\n", "\r", "\n", "G", " ", "/", "@", "HTTP/1.0", "\x80"}, 4) {
		check(s)
	}
	for s := range texts([]string{"G", " ", "/", "/%", "HTTP/1.0", "HTTP/2.9", "\r\n", "\r", "."}, 3) {
		check("G " + s)
		check("G / HTTP/" + s)
	}
	for s := range texts([]string{"\r\n", "\r", "\n", "A", ":", " ", "Host:", "A:1\r\n"}, 4) {
		check("G / HTTP/1.0\r\n" + s)
	}
	for s := range texts([]string{"Host:", "Host:a", "Host:a:x", "Content-Length:1", "Content-Length:x", "Transfer-Encoding:chunked", "Transfer-Encoding:x", "Expect:100-continue", "Expect:x"}, 3) {
		s = strings.NewReplacer("H", "\r\nH", "C", "\r\nC", "T", "\r\nT", "Ex", "\r\nEx").Replace(s)
		check("G / HTTP/1.0" + s + "\r\n\r\nabc")
		check("G / HTTP/1.1" + s + "\r\n\r\n1\r\na\r\n0\r\n\r\n")
	}
	for s := range texts([]string{"0\r\n", "1\r\n", "x", "\r\n", "A:1\r\n", "\n"}, 4) {
		check("G / HTTP/1.1\r\nHost:\r\nTransfer-Encoding:chunked\r\n\r\n" + s)
	}
}

// 11.3, 11.4: where the states begin.
func TestStates(t *testing.T) {
	p := newParser(t, usual())
	used := 0
	for _, step := range []struct {
		s     string
		state int
	}{
		{"", api.StateStart}, {"\r", api.StateStart}, {"\n", api.StateStart}, {"\r\n\r", api.StateStart}, {"\n", api.StateStart},
		{"P", api.StateLine}, {"UT /", api.StateLine}, {" HTTP/1.1", api.StateLine}, {"\r", api.StateLine},
		{"\n", api.StateFields}, {"Host: a", api.StateFields}, {"\r\n", api.StateFields}, {"Content-Length: 2\r\n", api.StateFields}, {"\r", api.StateFields},
		{"\n", api.StateBody}, {"", api.StateBody}, {"x", api.StateBody}, {"y", api.StateDone}, {"", api.StateDone},
	} {
		checkFeed(t, p, step.s, len(step.s))
		used += len(step.s)
		if p.State() != step.state || p.Used() != used {
			t.Errorf("behind %q: state %d, %d used; want %d, %d", step.s, p.State(), p.Used(), step.state, used)
		}
	}
	checkFeed(t, p, "GET / HTTP/1.0\r\n\r\n", 0)
	checkFeed(t, p, "\r\n", 0)
}

// 11.4: a request without a body, or with one of 0 bytes, is done behind the empty line; one in chunks is not.
func TestDoneAtOnce(t *testing.T) {
	for s, want := range map[string]int{
		"": api.StateDone, "Content-Length: 0|": api.StateDone, "Content-Length: 0, 000|": api.StateDone, "Expect: 100-continue|": api.StateDone,
		"Content-Length: 1|": api.StateBody, "Transfer-Encoding: chunked|": api.StateBody,
	} {
		s = lines("GET / HTTP/1.1|Host: a|" + s + "|")
		p := newParser(t, usual())
		checkFeed(t, p, s, len(s))
		if p.State() != want || p.Waits() {
			t.Errorf("%q: state %d, waits %v", s, p.State(), p.Waits())
		}
	}
}

// 11.3: behind a fault nothing is taken, and it stays.
func TestFaultStays(t *testing.T) {
	for _, s := range []string{"@", "\r\r", "GET  ", "GET / HTTP/1.1\r\n\r\n", "GET / HTTP/1.1\r\nHost: a\r\nTransfer-Encoding: chunked\r\n\r\n1\r\nab"} {
		p := newParser(t, usual())
		checkFeed(t, p, s+"GET / HTTP/1.0\r\n\r\n", len(s))
		want := modelSaid(usual(), s)
		for range 3 {
			checkSaid(t, p, want)
			checkFeed(t, p, "GET / HTTP/1.0\r\n\r\n", 0)
			checkFeed(t, p, "", 0)
			if err := p.Next(); err != api.ErrState {
				t.Errorf("Next behind %q: %d", s, err)
			}
		}
	}
}

// 11.6: who may wait, and how long.
func TestWaits(t *testing.T) {
	for s, want := range map[string]bool{
		"PUT / HTTP/1.1|Host: a|Expect: 100-continue|Content-Length: 1||":            true,
		"PUT / HTTP/1.1|Host: a|eXPECT: 100-CONTINUE|Transfer-Encoding: chunked||":   true,
		"PUT / HTTP/1.1|Host: a|Expect: 100-continue|Content-Length: 2||x":           false,
		"PUT / HTTP/1.1|Host: a|Expect: 100-continue|Transfer-Encoding: chunked||1":  false,
		"PUT / HTTP/1.1|Host: a|Expect: 100-continue|Transfer-Encoding: chunked||0|": false,
		"PUT / HTTP/1.0|Host: a|Expect: 100-continue|Content-Length: 1||":            false,
		"PUT / HTTP/1.1|Host: a|Content-Length: 1||":                                 false,
		"PUT / HTTP/1.1|Host: a|Expect: 100-continue|Content-Length: 0||":            false,
		"PUT / HTTP/1.1|Host: a|Expect: 100-continue||":                              false,
		"PUT / HTTP/1.1|Host: a|Expect: 100-continue|Content-Length: 1|":             false,
		"PUT / HTTP/1.1|Host: a|Expect: 100-continue|Content-Length: 1||x":           false,
		"PUT / HTTP/1.1|Host: a|Expect: 100-continues|Content-Length: 1||":           false,
		"": false,
	} {
		p := newParser(t, usual())
		p.Feed(lines(s))
		p.Feed("")
		if got := p.Waits(); got != want {
			t.Errorf("Waits behind %q: %v", s, got)
		}
	}
}

// 11.7: Next in each state.
func TestNext(t *testing.T) {
	for _, s := range some() {
		p := newParser(t, usual())
		for i := range len(s) + 1 {
			state := p.State()
			may := state == api.StateStart || state == api.StateDone
			if !may {
				before := says(p)
				if err := p.Next(); err != api.ErrState {
					t.Errorf("Next behind %q: %d", s[:i], err)
				}
				checkSaid(t, p, before)
			}
			if i < len(s) {
				checkFeed(t, p, s[i:i+1], 1)
			}
		}
		for range 2 {
			if err := p.Next(); err != api.OK {
				t.Errorf("Next behind %q: %d", s, err)
			}
			feedPieces(t, p, usual(), s[:9], s[9:], "more")
		}
	}
}

// 11.7: Next while nothing but line ends was taken, the 13 of one with them, and behind New.
func TestNextAtStart(t *testing.T) {
	for _, s := range []string{"", "\r", "\r\n", "\r\n\r\n\r"} {
		p := newParser(t, usual())
		checkFeed(t, p, s, len(s))
		if err := p.Next(); err != api.OK {
			t.Errorf("Next behind %q: %d", s, err)
		}
		feedPieces(t, p, usual(), "G", "ET / HTTP/1.0\r\n\r\n", "x")
	}
	p := newParser(t, usual())
	checkFeed(t, p, "\r", 1)
	p.Next()
	checkFeed(t, p, "\n", 1)
	checkSaid(t, p, modelSaid(usual(), "\n"))
}

// 11.7: nothing of a request is left for the next one, its limits are the same.
func TestNextIsNew(t *testing.T) {
	l := api.Limits{Target: 2, Head: 60, Fields: 2, Body: 3}
	texts := []string{
		lines("|PUT / HTTP/1.1|Host: a|Content-Length: 3||abc"),
		lines("GET /x HTTP/1.0||"),
		lines("||P / HTTP/1.1|Host:|Transfer-Encoding: chunked||3|abc|0|A:|B:||"),
		lines("PUT / HTTP/1.0|Content-Length: 1||a"),
		lines("G / HTTP/1.0|A:1234567890123456789012345678901234567890123456789||"),
		lines("CONNECT :1 HTTP/1.1|"),
	}
	for order := range lists(texts, 3) {
		p := newParser(t, l)
		for _, s := range order {
			feedPieces(t, p, l, s[:3], s[3:], "more")
			if p.Next() != api.OK {
				break
			}
		}
	}
}

// 11.9: a nil parser; and one that New did not make answers alike.
func TestNilParser(t *testing.T) {
	for _, p := range []*parse.Parser{nil, new(parse.Parser)} {
		for range 2 {
			for _, s := range []string{"", "\r\n", "GET / HTTP/1.0\r\n\r\n", "@"} {
				checkFeed(t, p, s, 0)
			}
			if err := p.Next(); err != api.ErrState {
				t.Error("Next:", err)
			}
			checkSaid(t, p, said{})
		}
	}
}

// 11.10, T6: of all beginnings of a request more is wanted.
func TestBeginnings(t *testing.T) {
	for _, s := range some() {
		for i := range len(s) {
			checkWhole(t, usual(), s[:i], more(s[:i]))
		}
		if o := whole(usual(), s); o.kind != api.ParseDone || o.n != len(s) {
			t.Errorf("%q: %v", s, o)
		}
	}
}

// 11.3: requests one behind the other, each fed what is left.
func TestPipeline(t *testing.T) {
	all := strings.Repeat(strings.Join(some(), ""), 3)
	for _, size := range []int{1, 7, 1000} {
		p := newParser(t, usual())
		var got, want []string
		for rest := range slices.Chunk([]byte(all), size) {
			for len(rest) > 0 {
				rest = rest[p.Feed(string(rest)):]
				if r, done := p.Request(); done {
					got = append(got, show(r))
					p.Next()
				}
			}
		}
		for range 3 {
			for _, s := range some() {
				want = append(want, show(modelWhole(usual(), s).request))
			}
		}
		if !slices.Equal(got, want) || p.State() != api.StateStart {
			t.Errorf("in pieces of %d: %q; want %q", size, got, want)
		}
	}
}
