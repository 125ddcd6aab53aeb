package handle_test

import (
	"math"
	"slices"
	"strings"
	"sync"
	"testing"

	"turnpike/api"
	"turnpike/handle"
	"turnpike/shelf"
)

// soil writes over all of a list, its spare room too.
func soil[T any](l []T, with T) {
	l = l[:cap(l)]
	for i := range l {
		l[i] = with
	}
}

// askings is handlers and what they are asked, so that each way of answering is gone.
func askings() []struct {
	h api.Handler
	a api.Asked
} {
	return []struct {
		h api.Handler
		a api.Asked
	}{
		{},
		{rightOnes()[1], api.Asked{}},
		{rightOnes()[2], api.Asked{}},
		{api.Handler{Kind: api.HandleStatus, Status: 204}, api.Asked{}},
		{rightOnes()[3], api.Asked{Params: params("x", "1", "id", "7")}},
		{rightOnes()[4], api.Asked{Request: api.Request{Method: "M", Target: "t", Fields: fields("A", "1", "B", "2"), Body: "b", Trailers: fields("T", "1")}}},
		{rightOnes()[5], api.Asked{Params: params("id", "%41", "b", "%"), Target: query("a=1&b")}},
		{api.Handler{Kind: api.HandleStatic}, api.Asked{Request: api.Request{Fields: fields("Accept-Language", "en", "Accept", "text/*")}, Target: api.Target{Path: "/v"}}},
		{api.Handler{Kind: api.HandleStatic}, api.Asked{Request: api.Request{Fields: fields("Accept-Language", "en", "Accept-Encoding", "gzip")}, Target: api.Target{Path: "/v"}}},
		{api.Handler{Kind: api.HandleStatic}, api.Asked{Request: api.Request{Fields: fields("Accept-Language", "fr")}, Target: api.Target{Path: "/v"}}},
		{rightOnes()[6], api.Asked{Params: params("rest", "d/x.txt")}},
		{rightOnes()[6], api.Asked{Params: params("rest", "d/e/")}},
		{rightOnes()[6], api.Asked{Params: params("rest", "d"), Target: query("q")}},
		{rightOnes()[6], api.Asked{Params: params("rest", "none")}},
		{rightOnes()[6], api.Asked{Params: params("rest", "%")}},
		{rightOnes()[7], api.Asked{Request: api.Request{Fields: fields("Content-Type", pairsMedia), Body: "a=1&b"}}},
		{rightOnes()[7], api.Asked{Request: api.Request{Fields: fields("Content-Type", "multipart/form-data; boundary=B"), Body: aPart + "--B--"}}},
		{rightOnes()[7], api.Asked{}},
		{rightOnes()[8], api.Asked{Request: api.Request{Fields: fields("Cookie", "a=1", "Cookie", "n=5")}}},
		{rightOnes()[9], api.Asked{Request: get(rightUpgrade())}},
		{rightOnes()[9], api.Asked{Request: get(nil)}},
		{rightOnes()[9], api.Asked{}},
	}
}

// cloned is a response with fields of its own.
func cloned(r api.Response) api.Response {
	r.Fields = slices.Clone(r.Fields)
	return r
}

// R4: what is handed in is left as it is, what lies behind a list's end too.
func TestArgumentsStay(t *testing.T) {
	s := newShelf(t, someFiles()...)
	spare := func(l []api.Field) []api.Field {
		return append(slices.Clone(l), fields("Behind", "1", "Behind", "2", "Behind", "3", "Behind", "4")...)[:len(l)]
	}
	for _, x := range askings() {
		full, all := spare(x.a.Request.Fields), append(slices.Clone(x.a.Params), params("p", "1", "p", "2")...)
		x.a.Request.Fields, x.a.Params = full, all[:len(all)-2]
		kept, keptAll := slices.Clone(full[:len(full)+4]), slices.Clone(all)
		r := handle.Answer(x.h, x.a, s)
		soil(r.Fields, api.Field{Name: "soiled"})
		handle.Wish(full)
		handle.Refer(x.h.Text, x.a.Params)
		if !slices.Equal(full[:len(full)+4], kept) || !slices.Equal(all, keptAll) {
			t.Fatalf("Answer(%s, %s) changed what was handed in", show(x.h), show(x.a))
		}
	}
	l := spare(fields("A", "1", "B", "2"))
	kept := slices.Clone(l[:6])
	r := handle.Plain(404, l...)
	soil(r.Fields, api.Field{Name: "soiled"})
	if !slices.Equal(l[:6], kept) {
		t.Error("Plain changed what was handed in:", show(l[:6]))
	}
	r, other := handle.Plain(404, l...), handle.Plain(404, l...)
	soil(l, api.Field{Name: "soiled"})
	soil(r.Fields, api.Field{Name: "soiled"})
	if !same(other, plain(404, "Not Found", "A", "1", "B", "2")) {
		t.Error("Plain keeps what was handed in:", show(other))
	}
}

// R4, 18.2: no two answers share fields, and whatever was asked ahead the same is answered to the same.
func TestAnswersAreNew(t *testing.T) {
	s := newShelf(t, someFiles()...)
	var wanted []api.Response
	for _, x := range askings() {
		wanted = append(wanted, modelAnswer(x.h, x.a, someFiles()))
	}
	for range 3 {
		var answers []api.Response
		for i, x := range askings() {
			r, other := handle.Answer(x.h, x.a, s), handle.Answer(x.h, x.a, s)
			soil(r.Fields, api.Field{Name: "soiled", Value: "soiled"})
			if !same(other, wanted[i]) {
				t.Fatalf("Answer(%s, %s): %s, wanted %s", show(x.h), show(x.a), show(other), show(wanted[i]))
			}
			answers = append(answers, other)
		}
		kept := slices.Clone(answers)
		for i := range kept {
			kept[i] = cloned(kept[i])
		}
		for i, r := range answers {
			if !same(r, kept[i]) {
				t.Fatalf("answer %d was changed by another one", i)
			}
			soil(r.Fields, api.Field{Name: "soiled", Value: "soiled"})
		}
	}
}

// 18.2: the moment has no part in what is answered.
func TestMoments(t *testing.T) {
	s := newShelf(t, someFiles()...)
	for _, x := range askings() {
		want := handle.Answer(x.h, x.a, s)
		for _, now := range []int{math.MinInt, -1, moment, math.MaxInt} {
			x.a.Now = now
			checkAnswer(t, x.h, x.a, s, want)
		}
	}
}

// R5: many may ask at the same time.
func TestAskedAtOneTime(t *testing.T) {
	s := newShelf(t, someFiles()...)
	var wanted []api.Response
	for _, x := range askings() {
		wanted = append(wanted, handle.Answer(x.h, x.a, s))
	}
	var all sync.WaitGroup
	for range 8 {
		all.Go(func() {
			for range 20 {
				for i, x := range askings() {
					if r := handle.Answer(x.h, x.a, s); !same(r, wanted[i]) {
						t.Errorf("Answer(%s): %s", show(x.h), show(r))
					}
				}
			}
		})
	}
	all.Wait()
}

// R1 and R2: whatever is handed in, no call panics, and with an error there is nothing beside it; an answer has a status and no reason.
func TestNoPanic(t *testing.T) {
	s := newShelf(t, someFiles()...)
	numbers := []int{math.MinInt, -1, 0, 1, 2, 200, 204, 301, 1000, math.MaxInt}
	i := 0
	for x := range texts([]string{"", "/", "{", "}", "\xff", "a", "%", "=", ";", ",", "\x00", "\"", " "}, 3) {
		i++
		n := numbers[i%len(numbers)]
		names := []string{"Accept", "Accept-Encoding", "Accept-Language", "Content-Type", "Cookie", "Upgrade", "Connection", "Sec-WebSocket-Version", "Sec-WebSocket-Key", x}
		var l []api.Field
		for _, name := range names {
			l = append(l, api.Field{Name: name, Value: x})
		}
		a := api.Asked{
			Request: api.Request{Method: x, Target: x, Major: n, Minor: n, Fields: l, Body: x, Trailers: l},
			Target:  api.Target{Form: n, Host: x, Port: n, Path: x, Query: x, HasQuery: i%2 > 0},
			Params:  []api.Param{{Name: x, Value: x}, {Name: "rest", Value: x}},
			Now:     n,
		}
		for kind, h := range rightOnes() {
			for _, h := range []api.Handler{h, {Kind: kind, Name: x, Text: x, Media: x, Status: n, N: n}} {
				for _, s := range []*shelf.Shelf{s, nil, {}} {
					if r := handle.Answer(h, a, s); r.Status < 101 || r.Status > 599 || r.Reason != "" {
						t.Fatalf("Answer(%s, %s): %s", show(h), show(a), show(r))
					}
				}
				if err := handle.Check(h); err != api.OK && err != api.ErrHandler {
					t.Fatalf("Check(%s): %d", show(h), err)
				}
			}
		}
		if text, err := handle.Refer(x, a.Params); err != api.OK && (err != api.ErrHandler || text != "") {
			t.Fatalf("Refer(%q): %q, %d", x, text, err)
		}
		handle.Plain(n, l...)
		handle.Wish(l)
	}
}

// R6: long fields are gone through in good time.
func TestLongFields(t *testing.T) {
	h := api.Handler{Kind: api.HandleCount, Name: "n"}
	a := api.Asked{Request: api.Request{Fields: fields("Cookie", strings.Repeat("a=1; ", 100000)+"n=4")}}
	checkAnswer(t, h, a, nil, text("5\n", "Set-Cookie", "n=5; Path=/"))
	a = api.Asked{Request: get(append(rightUpgrade(), fields("Connection", strings.Repeat("x, ", 100000))...))}
	checkAnswer(t, api.Handler{Kind: api.HandleSocket}, a, nil, switched())
	long := strings.Repeat("/a", 100000)
	checkAnswer(t, api.Handler{Kind: api.HandleStatic}, api.Asked{Target: api.Target{Path: long}}, newShelf(t, someFiles()...), plain(404, "Not Found"))
}
