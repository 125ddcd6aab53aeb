package message_test

import (
	"runtime"
	"slices"
	"strings"
	"testing"

	"turnpike/api"
	"turnpike/message"
)

// soil writes over all of a list, its spare room too.
func soil[T any](l []T, with T) {
	l = l[:cap(l)]
	for i := range l {
		l[i] = with
	}
}

// R4: what is written into an answer, its spare room too, shows in no other one and in nothing that is kept.
func TestListsAreNew(t *testing.T) {
	bad := api.Field{Name: "soiled"}
	for n := range 20 {
		s := "HTTP/1.1 200 \r\nTransfer-Encoding: chunked\r\n" + strings.Repeat("A: 1\r\n", n) + "\r\n0\r\n" + strings.Repeat("B: 2\r\n", n) + "\r\n"
		want := modelParse("GET", s, 0, false).reply
		r := newReader(t, 0, "GET", "GET", "GET", "GET")
		check(t, "Feed", r.Feed(s+s+s[:len(s)-n]), api.OK)
		calls := []func() api.Reply{
			func() api.Reply { x, _ := r.Next(); return x },
			func() api.Reply { x, _, _ := message.Parse("GET", s, 0, false); return x },
		}
		for _, call := range calls {
			first, second := call(), call()
			soil(first.Response.Fields, bad)
			if !slices.Equal(first.Trailers, want.Trailers) {
				t.Fatal("two lists of one answer share memory:", first.Trailers)
			}
			soil(first.Trailers, bad)
			if !sameReply(second, want) {
				t.Fatalf("lists share memory: %s; want %s", show(second), show(want))
			}
		}
		check(t, "Feed", r.Feed(s[len(s)-n:]+s), api.OK)
		third, _ := r.Next()
		soil(third.Response.Fields, bad)
		soil(third.Trailers, bad)
		if last, ok := r.Next(); !ok || !sameReply(last, want) {
			t.Fatalf("lists share memory: %s; want %s", show(last), show(want))
		}
		h, _, _ := message.ParseHead(s)
		soil(h.Response.Fields, bad)
		checkParseHead(t, s, modelHead(s))
	}
}

// R4: what was told stays as it was, whatever is read behind it.
func TestToldStays(t *testing.T) {
	r := newReader(t, 9)
	var told []api.Reply
	one := lines("HTTP/1.1 200 r|A: 1||HTTP/1.1 404 s|B: 2|Transfer-Encoding: chunked||1|x|0|C: 3||")
	for range 20 {
		r.Ask("HEAD")
		r.Ask("GET")
		for _, piece := range byBytes(one) {
			check(t, "Feed", r.Feed(piece), api.OK)
			if x, ok := r.Next(); ok {
				told = append(told, x)
			}
		}
	}
	if len(told) != 40 {
		t.Fatal("told:", len(told))
	}
	first := modelParse("HEAD", one, 9, false)
	second := modelParse("GET", one[first.n:], 9, false)
	for i, x := range told {
		if want := []api.Reply{first.reply, second.reply}[i%2]; !sameReply(x, want) {
			t.Errorf("told ahead: %s; want %s", show(x), show(want))
		}
	}
}

// R4: what is handed in is left as it is, the spare room behind it too, and that has no part in the answer.
func TestArgumentsStay(t *testing.T) {
	fields := []api.Field{fieldA, {Name: "Connection"}, {}, {}}
	trailers := []api.Field{fieldA, {Name: "Host"}, {}}
	sizes := []int{1, 0, 0}
	keptFields, keptTrailers, keptSizes := slices.Clone(fields), slices.Clone(trailers), slices.Clone(sizes)
	how := api.Manner{Chunked: true, Close: true, Sizes: sizes[:1], Trailers: trailers[:1]}
	checkPrint(t, response(200, "ab", fields[:1]...), how, lines("HTTP/1.1 200 OK|A: 1|Transfer-Encoding: chunked|Connection: close||1|a|1|b|0|A: 1||"), api.OK)
	checkHead(t, response(200, "ab", fields[:1]...), api.Manner{Old: true}, lines("HTTP/1.1 200 OK|A: 1|Content-Length: 2|Connection: keep-alive||"), api.OK)
	how.Trailers, how.Sizes = trailers, sizes
	checkPrint(t, response(200, "ab", fields[:1]...), how, "", api.ErrArg)
	checkRefused(t, response(200, "ab", fields...), how, api.ErrFramed)
	checkRefused(t, response(101, "", fields...), api.Manner{}, api.ErrName)
	if !slices.Equal(fields, keptFields) || !slices.Equal(trailers, keptTrailers) || !slices.Equal(sizes, keptSizes) {
		t.Error("a list was changed:", fields, trailers, sizes)
	}
}

// R5: readers know nothing of one another.
func TestReadersAreApart(t *testing.T) {
	streams := some()
	longest := len(slices.MaxFunc(streams, func(a, b string) int { return len(a) - len(b) }))
	var all []*message.Reader
	for range streams {
		all = append(all, newReader(t, 3, someMethods...))
	}
	for i := range longest {
		for k, s := range streams {
			if i < len(s) {
				all[k].Feed(s[i : i+1])
			}
		}
	}
	for k, s := range streams {
		m := &modelReader{most: 3, asked: slices.Clone(someMethods)}
		m.feed(s)
		checkStep(t, streams[k:k+1], all[k], m, all[k].End(), m.end(), true)
	}
}

// R5: what is answered does not hang on what was asked ahead.
func TestCallsAreApart(t *testing.T) {
	for range 3 {
		for _, s := range append(some(), "", "\r", "x") {
			checkText(t, s, 3)
			checkParseHead(t, s, modelHead(s))
		}
		checkPrint(t, response(204, ""), api.Manner{}, lines("HTTP/1.1 204 No Content||"), api.OK)
		checkRefused(t, response(20, ""), api.Manner{}, api.ErrStatus)
	}
}

// A body whose length is said and that does not come costs no room for it.
func TestLengthsCostNothing(t *testing.T) {
	for _, s := range []string{"HTTP/1.1 200 |Content-Length: 1073741824||x", "HTTP/1.1 200 |Transfer-Encoding: chunked||40000000|x", "HTTP/1.1 200 ||x"} {
		s = lines(s)
		r := newReader(t, 1<<40, "GET")
		var before, behind runtime.MemStats
		runtime.ReadMemStats(&before)
		check(t, "Feed", r.Feed(s), api.OK)
		message.Parse("GET", s, 1<<40, false)
		runtime.ReadMemStats(&behind)
		if n := behind.TotalAlloc - before.TotalAlloc; n > 100000 {
			t.Errorf("%q: %d bytes", s, n)
		}
	}
}

// A stream that is over or has failed keeps nothing of what comes behind.
func TestNothingIsKept(t *testing.T) {
	piece := strings.Repeat("x", 1<<20)
	for _, s := range []string{"HTTP/1.1 101 ||", "x"} {
		r := newReader(t, 1<<40, "GET", "GET")
		r.Feed(lines(s))
		var before, behind runtime.MemStats
		runtime.ReadMemStats(&before)
		for range 100 {
			r.Feed(piece)
		}
		runtime.ReadMemStats(&behind)
		if n := behind.TotalAlloc - before.TotalAlloc; n > 100000 {
			t.Errorf("%q: %d bytes", s, n)
		}
	}
}
