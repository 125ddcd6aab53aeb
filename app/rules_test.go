package app_test

import (
	"math"
	"math/rand/v2"
	"reflect"
	"slices"
	"strings"
	"sync"
	"testing"

	"turnpike/api"
	"turnpike/app"
	"turnpike/message"
	"turnpike/span"
)

// soil writes over all of a list, its spare room too.
func soil[T any](l []T, with T) {
	l = l[:cap(l)]
	for i := range l {
		l[i] = with
	}
}

// spare is a list with room behind its end, in which something lies.
func spare[T any](l []T, with T) []T {
	return append(slices.Clone(l), with, with, with)[:len(l)]
}

// roomy is a configuration whose lists all have room behind their ends.
func roomy(c api.Config) api.Config {
	c = bare(c)
	c.Middles = roomyMiddles(c.Middles)
	for i := range c.Routes {
		x := &c.Routes[i]
		x.Methods, x.Middles = spare(x.Methods, "behind"), roomyMiddles(x.Middles)
	}
	c.Routes = spare(c.Routes, api.Route{Pattern: "/behind"})
	c.Files = spare(c.Files, api.File{Path: "/behind"})
	return c
}

func roomyMiddles(l []api.Middle) []api.Middle {
	for i := range l {
		l[i].List = spare(l[i].List, "behind")
	}
	return spare(l, api.Middle{Name: "behind"})
}

// whole is a configuration with what lies behind its lists' ends.
func whole(c api.Config) api.Config {
	c.Middles, c.Routes, c.Files = wholeMiddles(c.Middles), slices.Clone(c.Routes[:cap(c.Routes)]), slices.Clone(c.Files[:cap(c.Files)])
	for i := range c.Routes {
		x := &c.Routes[i]
		x.Methods, x.Middles = slices.Clone(x.Methods[:cap(x.Methods)]), wholeMiddles(x.Middles)
	}
	return c
}

func wholeMiddles(l []api.Middle) []api.Middle {
	l = slices.Clone(l[:cap(l)])
	for i := range l {
		l[i].List = slices.Clone(l[i].List[:cap(l[i].List)])
	}
	return l
}

// soilConfig writes over all lists of a configuration.
func soilConfig(c api.Config) {
	soilMiddles(c.Middles)
	for _, x := range c.Routes {
		soil(x.Methods, "soiled")
		soilMiddles(x.Middles)
	}
	soil(c.Routes, api.Route{Pattern: "soiled"})
	soil(c.Files, api.File{Path: "soiled"})
}

func soilMiddles(l []api.Middle) {
	for _, m := range l {
		soil(m.List, "soiled")
	}
	soil(l, api.Middle{Name: "soiled"})
}

// R4: a configuration that is handed in is left as it is and not kept, and one that is handed out is new, whatever is done to either.
func TestConfigMemory(t *testing.T) {
	r := rand.New(rand.NewPCG(21, 2))
	for range 200 {
		plain := someConfig(t, r)
		c := roomy(plain)
		before := whole(c)
		a := madeOf(t, c)
		if !reflect.DeepEqual(whole(c), before) {
			t.Fatalf("New(%s) changed what was handed in", show(plain))
		}
		soilConfig(c)
		out, other := a.Config(), a.Config()
		soilConfig(out)
		if !reflect.DeepEqual(bare(other), bare(plain)) || !reflect.DeepEqual(bare(a.Config()), bare(plain)) {
			t.Fatalf("%s became %s, %s", show(plain), show(other), show(a.Config()))
		}
		for range 5 {
			checkModel(t, a, plain, someRequest(r), 1)
		}
	}
}

// R4: no two lists of a configuration that is handed out share memory.
func TestConfigLists(t *testing.T) {
	r := rand.New(rand.NewPCG(21, 3))
	for range 50 {
		plain := someConfig(t, r)
		a := madeOf(t, plain)
		for i := range plain.Routes {
			c := a.Config()
			soil(c.Routes[i].Methods, "soiled")
			soilMiddles(c.Routes[i].Middles)
			c.Routes[i].Methods, c.Routes[i].Middles = plain.Routes[i].Methods, plain.Routes[i].Middles
			if !reflect.DeepEqual(bare(c), bare(plain)) {
				t.Fatalf("lists of route %d are others' too: %s", i, show(c))
			}
		}
		for i := range plain.Middles {
			c := a.Config()
			soil(c.Middles[i].List, "soiled")
			c.Middles[i].List = plain.Middles[i].List
			if !reflect.DeepEqual(bare(c), bare(plain)) {
				t.Fatalf("the list of element %d is another's too: %s", i, show(c))
			}
		}
	}
}

// R4, R5: a request is left as it is, what lies behind its lists' ends too, and has no part in the next answer; answers are new.
func TestRequestMemory(t *testing.T) {
	r := rand.New(rand.NewPCG(21, 4))
	behind, soiled := api.Field{Name: "If-None-Match", Value: "*"}, api.Field{Name: "soiled", Value: "soiled"}
	for range 300 {
		c := someConfig(t, r)
		a := madeOf(t, c)
		for range 5 {
			q := someRequest(r)
			want := a.Answer(q, 1)
			want.Response.Fields = slices.Clone(want.Response.Fields)
			q.Fields, q.Trailers = spare(q.Fields, behind), spare(fields("T", "1"), behind)
			kept, trailers := slices.Clone(q.Fields[:cap(q.Fields)]), slices.Clone(q.Trailers[:cap(q.Trailers)])
			x, y := a.Answer(q, 1), a.Answer(q, 1)
			_, z := a.Bytes(q, 1)
			a.Go(q)
			soil(x.Response.Fields, soiled)
			if !same(y, want) || !same(z, want) {
				t.Fatalf("Answer(%s): %s, %s; wanted %s", show(q), show(y), show(z), show(want))
			}
			soil(y.Response.Fields, soiled)
			soil(z.Response.Fields, soiled)
			if !slices.Equal(q.Fields[:cap(q.Fields)], kept) || !slices.Equal(q.Trailers[:cap(q.Trailers)], trailers) {
				t.Fatalf("Answer(%s) changed what was handed in", show(q))
			}
			if x := a.Answer(q, 1); !same(x, want) {
				t.Fatalf("Answer(%s), asked again: %s; wanted %s", show(q), show(x), show(want))
			}
		}
	}
}

// 21.2, 21.3: what is answered is what the chapter's sentences say, of all sorts of configurations and requests.
func TestModel(t *testing.T) {
	r := rand.New(rand.NewPCG(21, 5))
	met := map[int]int{}
	closes, upgrades, lets := 0, 0, 0
	for range 4000 {
		c := someConfig(t, r)
		a := madeOf(t, c)
		for range 15 {
			q, n := someRequest(r), someNumber(r)
			checkModel(t, a, c, q, n)
			x := a.Answer(q, n)
			met[x.Response.Status]++
			closes += count(x.Close)
			upgrades += count(x.Upgrade)
			lets += count(a.Go(q))
		}
	}
	for _, status := range []int{101, 200, 203, 204, 206, 301, 302, 304, 308, 400, 401, 404, 405, 406, 412, 413, 415, 416, 421, 426, 500, 501} {
		if met[status] < 10 {
			t.Errorf("status %d was met %d times", status, met[status])
		}
	}
	if closes < 1000 || upgrades < 100 || lets < 1000 {
		t.Error(closes, upgrades, lets)
	}
}

func count(so bool) int {
	if so {
		return 1
	}
	return 0
}

// T5: a reader of responses takes what stands as bytes for the response that is told, and no byte more.
func TestReadBack(t *testing.T) {
	r := rand.New(rand.NewPCG(21, 6))
	for range 3000 {
		a := madeOf(t, someConfig(t, r))
		q := someRequest(r)
		s, x := a.Bytes(q, 1)
		reply, n, err := message.Parse(q.Method, s+"more", len(s), false)
		if err != api.OK || n != len(s) || !x.Upgrade && reply.Persist == x.Close {
			t.Fatalf("Bytes(%s): %q; read %d, %d, %s", show(q), s, n, err, show(reply))
		}
		body := x.Response.Body
		if message.Bodyless(q.Method, x.Response.Status) {
			body = ""
		}
		l := reply.Response.Fields
		if reply.Response.Status != x.Response.Status || reply.Response.Body != body || len(l) < len(x.Response.Fields) || !slices.Equal(l[:len(x.Response.Fields)], x.Response.Fields) {
			t.Fatalf("Bytes(%s): %q, read as %s", show(q), s, show(reply))
		}
	}
}

// 21.6: what HEAD is answered has the bytes of what GET is answered, without the body.
func TestHead(t *testing.T) {
	r := rand.New(rand.NewPCG(21, 7))
	for range 4000 {
		c := someConfig(t, r)
		if tellsApart(c) {
			continue
		}
		a := madeOf(t, c)
		q := someRequest(r)
		q.Method, q.Fields = "GET", without(q.Fields, "Range")
		s, x := a.Bytes(q, 1)
		q.Method = "HEAD"
		h, y := a.Bytes(q, 1)
		if front, _, _ := strings.Cut(s, "\r\n\r\n"); h != front+"\r\n\r\n" || !same(x, y) {
			t.Fatalf("of %s\n%s: GET %q, HEAD %q", show(c), show(q), s, h)
		}
	}
}

// tellsApart is whether a route or a chain of a configuration may tell GET and HEAD apart, or a handler tells the request.
func tellsApart(c api.Config) bool {
	elements := slices.Clone(c.Middles)
	for _, x := range c.Routes {
		elements = append(elements, x.Middles...)
		if slices.Contains(x.Methods, "HEAD") || x.Handler.Kind == api.HandleEcho || x.Handler.Kind == api.HandleSocket {
			return true
		}
	}
	return slices.ContainsFunc(elements, func(m api.Middle) bool { return m.Kind == api.MiddleMethods })
}

// 21.6: a conditional request is answered as the plain one, or by 304, or 412; a range's answer is of the plain one's body.
func TestConditional(t *testing.T) {
	r := rand.New(rand.NewPCG(21, 8))
	parts := 0
	for range 10000 {
		c := someConfig(t, r)
		if slices.ContainsFunc(c.Routes, func(x api.Route) bool { return x.Handler.Kind == api.HandleEcho }) {
			continue
		}
		a := madeOf(t, c)
		q := someRequest(r)
		q.Method = "GET"
		x := a.Answer(q, 1)
		unconditional := q
		unconditional.Fields = without(q.Fields, "If-Match", "If-None-Match", "If-Modified-Since", "If-Unmodified-Since")
		if y := a.Answer(unconditional, 1); !same(x, y) && x.Response.Status != 304 && x.Response.Status != 412 {
			t.Fatalf("of %s\n%s: %s, without conditions %s", show(c), show(q), show(x), show(y))
		}
		unconditional.Fields = without(unconditional.Fields, "Range", "If-Range")
		body := a.Answer(unconditional, 1).Response.Body
		if x.Response.Status == 206 {
			parts++
			checkPart(t, x.Response, body)
		}
	}
	if parts < 50 {
		t.Error("parts were met", parts, "times")
	}
}

// checkPart holds a part of a body against it.
func checkPart(t *testing.T, x api.Response, body string) {
	t.Helper()
	at := slices.IndexFunc(x.Fields, func(f api.Field) bool { return strings.HasPrefix(f.Value, "multipart/byteranges") })
	if at < 0 {
		where, size, err := span.Told(x.Fields[slices.IndexFunc(x.Fields, func(f api.Field) bool { return f.Name == "Content-Range" })].Value)
		if err != api.OK || size != len(body) || body[where.From:where.To] != x.Body {
			t.Errorf("%s of %q", show(x), body)
		}
		return
	}
	_, boundary, _ := strings.Cut(x.Fields[at].Value, "boundary=")
	l, _, err := span.Pieces(boundary, x.Body)
	for _, p := range l {
		if p.Size != len(body) || body[p.Span.From:p.Span.To] != p.Body {
			t.Errorf("%s of %q", show(x), body)
		}
	}
	if err != api.OK || len(l) < 2 {
		t.Errorf("%s of %q", show(x), body)
	}
}

// R1: whatever is handed in, no call panics, and an answer is one that can be told.
func TestNoPanic(t *testing.T) {
	texts := []string{"", "/", "/a", "*", "%", "/%", "a:1", "http://", "\x00", "\xff", "\r\n", "GET", "HEAD", "CONNECT", "OPTIONS", "bytes=0-", "*", "\"", "Range", "If-None-Match", "Connection", strings.Repeat("/a", 5000)}
	numbers := []int{math.MinInt, -1, 0, 1, 2, math.MaxInt}
	r := rand.New(rand.NewPCG(21, 9))
	w := func() string { return oneOf(r, texts...) }
	n := func() int { return oneOf(r, numbers...) }
	for range 3000 {
		c := someConfig(t, r)
		for _, a := range []*app.App{madeOf(t, c), nil, {}} {
			for range 5 {
				q := api.Request{Method: w(), Target: w(), Major: n(), Minor: n(), Fields: []api.Field{{Name: w(), Value: w()}, {Name: w(), Value: w()}}, Body: w(), Trailers: []api.Field{{Name: w(), Value: w()}}}
				s, x := a.Bytes(q, n())
				if x.Response.Status < 101 || x.Response.Status > 599 || !strings.HasPrefix(s, "HTTP/1.1 ") || x.Close && x.Upgrade || x.Route < -1 || x.Route >= max(1, len(c.Routes)) {
					t.Fatalf("Bytes(%s): %q, %s", show(q), s, show(x))
				}
				a.Go(q)
				if s := a.Fail(api.Fault{Status: n(), Err: api.Errno(n()), At: n()}); !strings.HasPrefix(s, "HTTP/1.1 400 ") {
					t.Fatalf("Fail: %q", s)
				}
			}
		}
	}
}

// R5: many may ask one app at the same time, and apps know nothing of one another.
func TestAtOneTime(t *testing.T) {
	shared := configured(t, busy)
	a := madeOf(t, shared)
	var all sync.WaitGroup
	for i := range 8 {
		all.Go(func() {
			r := rand.New(rand.NewPCG(21, uint64(100+i)))
			for range 200 {
				q, n := someRequest(r), someNumber(r)
				want, told := modelBytes(shared, q, n)
				if s, x := a.Bytes(q, n); s != want || !same(x, told) || a.Go(q) != modelGo(shared, q) {
					t.Errorf("Bytes(%s): %q", show(q), s)
				}
				if c := a.Config(); !reflect.DeepEqual(bare(c), bare(shared)) {
					t.Errorf("Config: %s", show(c))
				}
			}
		})
	}
	all.Wait()
}

// R6: long bodies, many ranges and many fields are gone through in good time.
func TestLong(t *testing.T) {
	c := configured(t, "route GET /a { middle add Accept-Ranges bytes; text 200 a/b x; }")
	c.Routes[0].Handler.Text = strings.Repeat("--part", 500000)
	a := madeOf(t, c)
	for _, piece := range []string{"0-0,", "-1,", "5-9,", ",", "1-1,3-3,"} {
		r := ask("GET /a HTTP/1.1")
		r.Fields = fields("Range", "bytes="+strings.Repeat(piece, 100000)+"1-2")
		if x := a.Answer(r, 1); x.Response.Status != 206 {
			t.Errorf("%s: %d", piece, x.Response.Status)
		}
	}
	r := ask("GET /a HTTP/1.1|Range: bytes=0-0,2-2||")
	for range 100000 {
		r.Fields = append(r.Fields, api.Field{Name: "Connection", Value: "x"})
	}
	if x := a.Answer(r, 1); x.Response.Status != 206 || x.Close {
		t.Error(x.Response.Status, x.Close)
	}
}
