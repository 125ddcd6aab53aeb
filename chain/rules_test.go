package chain_test

import (
	"errors"
	"math"
	"slices"
	"strings"
	"sync"
	"testing"

	"turnpike/api"
	"turnpike/chain"
)

var soiled = api.Field{Name: "soiled", Value: "soiled"}

// soil writes over all of a list, its spare room too.
func soil[T any](l []T, with T) {
	l = l[:cap(l)]
	for i := range l {
		l[i] = with
	}
}

// spare is a list with room behind its end, in which something lies.
func spare[T any](l []T, with T) []T {
	return append(slices.Clone(l), with, with, with, with)[:len(l)]
}

// whole is a list and what lies behind its end.
func whole[T any](l []T) []T { return slices.Clone(l[:cap(l)]) }

// R4: what is handed in is left as it is, what lies behind a list's end too, also if last writes over what it is handed.
func TestArgumentsStay(t *testing.T) {
	behind := api.Field{Name: "Behind", Value: "1"}
	for _, m := range someElements() {
		for _, r := range someRequests() {
			m.List = spare(m.List, "behind")
			r.Fields, r.Trailers = spare(r.Fields, behind), spare(r.Trailers, behind)
			own := spare(thanks().Fields, behind)
			l := spare([]api.Middle{m, {Kind: api.MiddleSet, Name: "a", Value: "3"}}, api.Middle{Kind: 1})
			texts, fields, trailers, answered := whole(m.List), whole(r.Fields), whole(r.Trailers), whole(own)
			x := chain.Run(l, r, func(r api.Request) api.Response {
				soil(r.Fields, soiled)
				soil(r.Trailers, soiled)
				return api.Response{Status: 200, Fields: own}
			})
			soil(x.Fields, soiled)
			chain.Check(m)
			kept := slices.Equal(whole(m.List), texts) && slices.Equal(whole(r.Fields), fields) && slices.Equal(whole(r.Trailers), trailers) && slices.Equal(whole(own), answered)
			if !kept || l[0].Kind != m.Kind || l[:3][2].Kind != 1 {
				t.Fatalf("Run(%s, %s) changed what was handed in", show(l), show(r))
			}
		}
	}
	l := spare(fields("A", "1", "B", "2"), behind)
	kept := whole(l)
	soil(chain.Plain(404, l).Fields, soiled)
	if !slices.Equal(whole(l), kept) {
		t.Error("Plain changed what was handed in")
	}
	x := chain.Plain(404, l)
	soil(l, soiled)
	if !same(x, plain(404, "Not Found", "A", "1", "B", "2")) {
		t.Error("Plain shares its fields with what was handed in:", show(x))
	}
}

// R4: an answer shares nothing with last's, nor with another answer; the lists that last is handed are its own.
func TestAnswersAreNew(t *testing.T) {
	for _, m := range someElements() {
		for _, r := range someRequests() {
			own := spare(thanks().Fields, soiled)
			h := &handler{response: api.Response{Status: 200, Fields: own}}
			l := []api.Middle{m}
			x, other := chain.Run(l, r, h.answer), chain.Run(l, r, h.answer)
			want := modelRun(l, r, (&handler{response: api.Response{Status: 200, Fields: thanks().Fields}}).answer)
			soil(other.Fields, soiled)
			soil(own, soiled)
			for _, asked := range h.asked {
				soil(asked.Trailers, soiled)
				if slices.Contains(asked.Fields, soiled) {
					t.Fatalf("Run(%s, %s) hands out two lists of one memory", show(m), show(r))
				}
				soil(asked.Fields, soiled)
			}
			if !same(x, want) {
				t.Fatalf("Run(%s, %s): %s, wanted %s", show(m), show(r), show(x), show(want))
			}
		}
	}
}

// R5: what last does to what was handed in to Run has no part in what is answered.
func TestLastReachesNothing(t *testing.T) {
	l := []api.Middle{{Kind: api.MiddleOrigin, List: list("a")}, {Kind: api.MiddleCache, Value: "v"}, {Kind: api.MiddleAdd, Name: "X", Value: "1"}}
	origins, r := l[0].List, get("Origin", "a")
	x := chain.Run(l, r, func(api.Request) api.Response {
		origins[0] = "*"
		soil(l, api.Middle{Kind: api.MiddleDrop, Name: "X"})
		soil(r.Fields, soiled)
		return answerOf(200)
	})
	if !same(x, answerOf(200, "X", "1", "Cache-Control", "v", allowOrigin, "a", "Vary", "Origin")) {
		t.Error(show(x))
	}
}

// R5: many may run one chain at the same time.
func TestRunAtOneTime(t *testing.T) {
	l, requests := someElements(), someRequests()
	var all sync.WaitGroup
	for range 8 {
		all.Go(func() {
			for range 20 {
				for i := range l {
					for _, r := range requests {
						h, want := &handler{response: thanks()}, &handler{response: thanks()}
						if x := chain.Run(l[i:], r, h.answer); !same(x, modelRun(l[i:], r, want.answer)) {
							t.Errorf("Run(%s, %s): %s", show(l[i:]), show(r), show(x))
						}
					}
				}
			}
		})
	}
	all.Wait()
}

// R1: a last handler that panics, with whatever, is one that failed; what it has answered is changed as another answer.
func TestLastPanics(t *testing.T) {
	l := []api.Middle{{Kind: api.MiddleAdd, Name: "X", Value: "1"}, {Kind: api.MiddleMethods, List: list("GET")}}
	var none map[string]int
	for _, last := range []func(api.Request) api.Response{
		func(api.Request) api.Response { panic("no") },
		func(api.Request) api.Response { panic(errors.New("no")) },
		func(api.Request) api.Response { panic(nil) },
		func(api.Request) api.Response { none["a"] = 1; return thanks() },
		func(r api.Request) api.Response { return api.Response{Status: int(r.Body[0])} },
	} {
		if x := chain.Run(l, api.Request{Method: "GET"}, last); !same(x, plain(500, "Internal Server Error", "X", "1")) {
			t.Error(show(x))
		}
		if x := chain.Run(l, api.Request{Method: "PUT"}, last); x.Status != 405 {
			t.Error(show(x))
		}
	}
}

// R1: whatever is handed in, no call panics, last is asked once at most, and an error is the layer's own.
func TestNoPanic(t *testing.T) {
	numbers := []int{math.MinInt, -1, 0, 1, 2, 60, math.MaxInt}
	i := 0
	for s := range texts([]string{"", "/", "*", "\xff", "a", "%", "=", ":", ",", "\x00", "\"", " ", "http://"}, 3) {
		i++
		n := numbers[i%len(numbers)]
		var l []api.Field
		for _, name := range []string{"Host", "Origin", "Authorization", requestMethod, requestNames, s} {
			l = append(l, api.Field{Name: name, Value: s})
		}
		r := api.Request{Method: s, Target: s, Major: n, Minor: n, Fields: l, Body: s, Trailers: l}
		for kind, m := range rightOnes() {
			for _, m := range []api.Middle{m, {Kind: kind, Name: s}, {Kind: kind, Value: s, List: list(s), N: n}, {Kind: kind, Value: s}, {Kind: kind, List: list(s, s)}, {Kind: n}} {
				h := &handler{response: api.Response{Status: n, Reason: s, Fields: l, Body: s}}
				chain.Run([]api.Middle{m, m}, r, h.answer)
				if len(h.asked) > 1 {
					t.Fatalf("Run(%s, %s) asked more than once", show(m), show(r))
				}
				if err := chain.Check(m); err != api.OK && err != api.ErrMiddle {
					t.Fatalf("Check(%s): %d", show(m), err)
				}
			}
		}
		chain.Plain(n, l)
	}
}

// R1, the bound: a chain of very many elements is gone through as a short one.
func TestLongChain(t *testing.T) {
	const count = 1 << 20
	r := api.Request{Method: "GET", Target: "http://h" + strings.Repeat("/a", 9), Fields: fields("Host", "h", "Origin", "http://x", "Authorization", "Basic dTpw")}
	for _, m := range rightOnes() {
		l := slices.Repeat([]api.Middle{m}, count)
		fieldsMore := 0
		switch m.Kind {
		case api.MiddleAdd:
			fieldsMore = count
		case api.MiddleOrigin:
			fieldsMore = 2 * count
		case api.MiddleCache:
			fieldsMore = 1
		case api.MiddleDrop:
			fieldsMore = -2
		case api.MiddleSet:
			fieldsMore = -1
		}
		status := 200
		if m.Kind == api.MiddleStrip {
			status, fieldsMore = 404, -2
		}
		h := &handler{response: thanks()}
		if x := chain.Run(l, r, h.answer); x.Status != status || len(x.Fields) != len(thanks().Fields)+fieldsMore {
			t.Errorf("of kind %d: %d, %d fields", m.Kind, x.Status, len(x.Fields))
		}
	}
}

// R6: long texts are gone through in good time.
func TestLongTexts(t *testing.T) {
	long := strings.Repeat("a", 1<<20)
	checkStripped(t, "/"+long, "/"+long+"/b?"+long, "/b?"+long)
	login := long + ":" + long
	checkThrough(t, api.Middle{Kind: api.MiddleBasic, Name: long, List: list(login)}, authorized("Basic "+strings.Repeat(" ", 1<<20)+encoded(login)))
	checkThrough(t, api.Middle{Kind: api.MiddleHost, List: list(long)}, hosted("http://"+long))
	checkFields(t, api.Middle{Kind: api.MiddleOrigin, List: list(long)}, get("Origin", long), allowOrigin, long, "Vary", "Origin")
}
