package parse_test

import (
	"runtime"
	"slices"
	"strings"
	"testing"

	"turnpike/api"
	"turnpike/parse"
)

// soil writes over all of a list, its spare room too.
func soil[T any](l []T, with T) {
	l = l[:cap(l)]
	for i := range l {
		l[i] = with
	}
}

// R4: what is written into an answer, its spare room too, shows in no other one and in nothing that is kept.
func TestListsAreNew(t *testing.T) {
	wrong := api.Field{Name: "soiled"}
	for n := range 20 {
		s := "P / HTTP/1.1\r\nHost:\r\nTransfer-Encoding: chunked\r\n" + strings.Repeat("A: 1\r\n", n) + "\r\n0\r\n"
		behind := strings.Repeat("B: 2\r\n", n) + "\r\n"
		want := modelWhole(usual(), s+behind).request
		head := want
		head.Trailers = nil
		ask := func(what string, want api.Request, call func() (api.Request, bool)) {
			t.Helper()
			first, ok := call()
			second, _ := call()
			if !ok {
				t.Fatal(what, "answers nothing")
			}
			soil(first.Fields, wrong)
			soil(first.Trailers, wrong)
			third, _ := call()
			if !sameRequest(second, want) || !sameRequest(third, want) {
				t.Fatalf("%s: lists share memory: %s, %s", what, show(second), show(third))
			}
		}
		p := newParser(t, usual())
		checkFeed(t, p, s, len(s))
		ask("Head", head, p.Head)
		checkFeed(t, p, behind, len(behind))
		ask("Head", head, p.Head)
		ask("Request", want, p.Request)
		ask("Head", head, p.Head)
		ask("Whole", want, func() (api.Request, bool) {
			r, _, _, k := parse.Whole(usual(), s+behind)
			return r, k == api.ParseDone
		})
		r, _ := p.Request()
		soil(r.Fields, wrong)
		if !slices.Equal(r.Trailers, want.Trailers) {
			t.Fatal("two lists of one answer share memory:", r.Trailers)
		}
	}
}

// R4: what was told stays as it was, whatever is taken behind it.
func TestToldStays(t *testing.T) {
	p := newParser(t, usual())
	var told, want []api.Request
	for range 5 {
		for _, s := range some() {
			checkFeed(t, p, s, len(s))
			r, _ := p.Request()
			h, _ := p.Head()
			o := modelWhole(usual(), s).request
			told, want = append(told, r, h), append(want, o, with(o, ""))
			p.Next()
		}
	}
	for i := range told {
		if !sameRequest(told[i], want[i]) {
			t.Errorf("told ahead: %s; want %s", show(told[i]), show(want[i]))
		}
	}
}

// R4: what is handed in is left as it is, the spare room behind it too, and that has no part in the answer.
func TestArgumentsStay(t *testing.T) {
	fields := []api.Field{inChunks, {Name: "A"}, {Name: "Content-Length", Value: "x"}, {}}
	trailers := []api.Field{trailer, {Name: "Host"}, {}}
	keptFields, keptTrailers := slices.Clone(fields), slices.Clone(trailers)
	r := with(request("PUT", "/", 1, fields[:2]...), "ab", trailers[:1]...)
	checkPrint(t, r, lines("PUT / HTTP/1.1|Transfer-Encoding: chunked|A:||2|ab|0|A: 1||"), api.OK)
	r.Trailers = trailers
	checkPrintErr(t, r, api.ErrTrailer)
	r.Fields = fields
	checkPrintErr(t, r, api.ErrName)
	if !slices.Equal(fields, keptFields) || !slices.Equal(trailers, keptTrailers) {
		t.Error("a list was changed:", fields, trailers)
	}
}

// R5: parsers know nothing of one another.
func TestParsersAreApart(t *testing.T) {
	texts := append(some(), "G@T", lines("GET / HTTP/1.1|Host: a|Transfer-Encoding: chunked||1|xy"))
	longest := len(slices.MaxFunc(texts, func(a, b string) int { return len(a) - len(b) }))
	var all []*parse.Parser
	for range texts {
		all = append(all, newParser(t, usual()))
	}
	for i := range longest {
		for k, s := range texts {
			if i < len(s) {
				all[k].Feed(s[i : i+1])
			}
		}
	}
	for k, s := range texts {
		checkSaid(t, all[k], modelSaid(usual(), s))
	}
}

// R5: what is answered does not hang on what was asked ahead.
func TestCallsAreApart(t *testing.T) {
	for range 3 {
		for _, s := range append(some(), "", "\r", "G@T", "GET / HTTP/1.1\r\n\r\n") {
			checkWhole(t, usual(), s, modelWhole(usual(), s))
			checkWhole(t, api.Limits{Target: 1, Head: 2}, s, modelWhole(api.Limits{Target: 1, Head: 2}, s))
		}
		checkPrint(t, request("GET", "/", 0), "GET / HTTP/1.0\r\n\r\n", api.OK)
		checkPrintErr(t, request("GET", "", 0), api.ErrLine)
	}
}

// A body whose length is said and that does not come costs no room for it.
func TestLengthsCostNothing(t *testing.T) {
	l := narrow(func(l *api.Limits) { l.Body = 1073741824 })
	for _, s := range []string{"PUT / HTTP/1.0|Content-Length: 1073741824||x", "PUT / HTTP/1.1|Host:|Transfer-Encoding: chunked||40000000|x"} {
		s = lines(s)
		p := newParser(t, l)
		var before, behind runtime.MemStats
		runtime.ReadMemStats(&before)
		checkFeed(t, p, s, len(s))
		runtime.ReadMemStats(&behind)
		if n := behind.TotalAlloc - before.TotalAlloc; n > 100000 {
			t.Errorf("%q: %d bytes", s, n)
		}
	}
}
