package whole_test

import (
	"strings"
	"testing"

	"turnpike/api"
	"turnpike/app"
	"turnpike/message"
	"turnpike/parse"
	"turnpike/socket"
	"turnpike/whole"
)

// conformed is what a client that knows what it asked reads off what went out.
type conformed struct {
	replies, words  int    // responses, and words to go on ahead of them
	waits, persists bool   // whether a word stands behind the last response, and whether that one persists
	frames          string // what stands behind an upgrade
}

// methods is the methods of the requests with which a text begins, up to an upgrade or a fault.
func methods(l api.Limits, in string, most int) []string {
	var m []string
	for range most {
		r, n, _, kind := parse.Whole(l, in)
		if kind != api.ParseDone {
			break
		}
		m = append(m, r.Method)
		in = in[n:]
	}
	return m
}

// readOff reads responses one by one, asked by the methods, and behind them, of a fault, by any.
func readOff(t *testing.T, out string, asked []string, upgraded bool) conformed {
	t.Helper()
	c := conformed{persists: true}
	for out != "" {
		method := "GET"
		if c.replies < len(asked) {
			method = asked[c.replies]
		}
		x, n, err := message.Parse(method, out, len(out), false)
		if err != api.OK {
			t.Fatalf("%q, asked %q: %d at %d", out, asked, err, n)
		}
		out = out[n:]
		if message.Interim(x.Response.Status) {
			if x.Response.Status != 100 || len(x.Response.Fields) > 0 {
				t.Fatalf("interim: %+v", x)
			}
			c.words++
			c.waits = true
			continue
		}
		c.waits = false
		c.replies++
		c.persists = x.Persist
		if upgraded && x.Response.Status == 101 {
			c.frames = out
			return c
		}
		if x.Response.Status == 101 || out != "" && !x.Persist {
			t.Fatalf("%+v, and %q behind it", x, out)
		}
	}
	return c
}

// checkReader hands what went out to a reader of responses, and all that it reads is a response for each request that waits.
func checkReader(t *testing.T, o api.Outcome, asked []string, c conformed) {
	t.Helper()
	r, _ := message.New(len(o.Out))
	for _, m := range asked {
		r.Ask(m)
	}
	still := 0
	if c.waits {
		still = 1
	}
	for range c.replies - len(asked) + still {
		r.Ask("PUT")
	}
	fed, ended := r.Feed(o.Out), r.End()
	n := 0
	for x, is := r.Next(); is; x, is = r.Next() {
		if !message.Interim(x.Response.Status) {
			n++
		}
	}
	if fed != api.OK || ended != api.OK || n != c.replies || r.Asked() != still || r.Err() != api.OK {
		t.Fatalf("%q, asked %q: %d, %d; %d of %d responses; %d wait", o.Out, asked, fed, ended, n, c.replies, r.Asked())
	}
}

// checkFrames holds what was said behind an upgrade: frames as a server sends them, of which one that closes is the last one.
func checkFrames(t *testing.T, s string, closed bool) {
	t.Helper()
	last := -1
	for s != "" {
		f, n, err := socket.Parse(s, api.MaxMessage)
		if err != api.OK || !f.Fin || f.Masked || last == api.OpClose {
			t.Fatalf("%q: %+v, %d", s, f, err)
		}
		last = f.Op
		s = s[n:]
	}
	if closed != (last == api.OpClose) {
		t.Fatalf("closed %v, and the last frame's kind is %d", closed, last)
	}
}

// checkConform holds an outcome that has not ended against 23.5, and is how many words to go on it has.
func checkConform(t *testing.T, a *app.App, in string) conformed {
	t.Helper()
	o := whole.Run(a, in, false)
	asked := methods(a.Config().Limits, in, o.Requests)
	if len(asked) != o.Requests {
		t.Fatalf("%q: %d requests; %d are read", in, o.Requests, len(asked))
	}
	c := readOff(t, o.Out, asked, o.Upgraded)
	checkReader(t, o, asked, c)
	if faulty := c.replies - o.Requests; faulty < 0 || faulty > 1 || faulty == 1 && !o.Closed || faulty == 1 && o.Upgraded {
		t.Fatalf("%q: %+v; %d responses", in, o, c.replies)
	}
	if o.Upgraded {
		checkFrames(t, c.frames, o.Closed)
	} else if o.Closed == c.persists {
		t.Fatalf("%q: %+v; whether the last response persists: %v", in, o, c.persists)
	}
	return c
}

// 23.5: what goes out is a row of responses, and behind an upgrade of frames; it closes where a response says so, and nowhere else.
func TestConform(t *testing.T) {
	r := newSome(3)
	words, upgrades := 0, 0
	for range 6000 {
		c := checkConform(t, r.app(t), r.row())
		words += c.words
		if c.frames != "" {
			upgrades++
		}
	}
	if words < 100 || upgrades < 100 {
		t.Errorf("%d words to go on, %d upgrades: too few to tell", words, upgrades)
	}
}

// 23.5: of literal rows.
func TestConformExamples(t *testing.T) {
	a := made(t, busy)
	head := "HEAD /f/x.txt HTTP/1.1|Host: h||"
	get := strings.Replace(head, "HEAD", "GET", 1)
	put := "PUT /small HTTP/1.1|Host: h|Expect: 100-continue|Content-Length: 2||ab"
	for in, want := range map[string]conformed{
		"":                            {persists: true},
		head + get + head:             {replies: 3, persists: true},
		head + put + get + put:        {replies: 4, words: 2, persists: true},
		get + "GET /same HTTP/1.0||x": {replies: 2},
		head + "x\x00":                {replies: 2},
		put[:len(put)-2]:              {words: 1, waits: true, persists: true},
		put + "GET /g HTTP/1.1||":     {replies: 2, words: 1},
		put + upgrade + "\x89\x80\x00\x00\x00\x00": {replies: 2, words: 1, persists: true, frames: "\x8a\x00"},
	} {
		c := checkConform(t, a, lines(in))
		if c != want {
			t.Errorf("%q: %+v; want %+v", in, c, want)
		}
	}
}
