package handle_test

import (
	"slices"
	"strings"
	"testing"

	"turnpike/api"
	"turnpike/handle"
	"turnpike/shelf"
)

const moment = 784111777 // Sun, 06 Nov 1994 08:49:37 GMT

// someFiles is a directory with an index, one without, and variants.
func someFiles() []api.File {
	return []api.File{
		{Path: "/d/index.html", Media: "text/html; charset=utf-8", Body: "index", Time: -1},
		{Path: "/d/x.txt", Media: "text/plain", Body: "hello", Time: moment},
		{Path: "/d/e/f", Media: "a/b", Time: 0},
		{Path: "/v", Media: "text/plain", Language: "de", Body: "hallo", Time: -1},
		{Path: "/v", Media: "text/plain", Language: "en", Body: "hello", Time: -1},
		{Path: "/v", Media: "text/plain", Language: "en", Coding: "gzip", Body: "packed", Time: 1},
		{Path: "/w", Media: "text/plain", Coding: "gzip", Body: "packed", Time: api.MaxMoment},
		{Path: "/~a/%2F", Media: "a/b", Body: "odd", Time: api.MinMoment},
		{Path: "/d/e/g/h", Media: "a/b", Body: "deep", Time: -1},
	}
}

// tagOf is a file's tag, told by a shelf of it alone.
func tagOf(t *testing.T, f api.File) string {
	t.Helper()
	text, _ := newShelf(t, f).Tag(0)
	return text
}

// checkPath asks for a file by the target's path.
func checkPath(t *testing.T, path string, l []api.Field, n int, want api.Response) {
	t.Helper()
	h := api.Handler{Kind: api.HandleStatic, N: n}
	a := api.Asked{Request: api.Request{Method: "GET", Fields: l}, Target: api.Target{Form: api.FormOrigin, Port: -1, Path: path}}
	checkAnswer(t, h, a, newShelf(t, someFiles()...), want)
}

func answered(body string, l ...string) api.Response {
	return api.Response{Status: 200, Fields: fields(l...), Body: body}
}

// 18.2: a file, with the fields that it has, in their order.
func TestFile(t *testing.T) {
	l := someFiles()
	checkPath(t, "/d/x.txt", nil, 0, answered("hello", "Content-Type", "text/plain", "ETag", tagOf(t, l[1]), "Last-Modified", "Sun, 06 Nov 1994 08:49:37 GMT", "Accept-Ranges", "bytes"))
	checkPath(t, "/d/x.txt", nil, 1, answered("hello", "Content-Type", "text/plain", "ETag", tagOf(t, l[1]), "Last-Modified", "Sun, 06 Nov 1994 08:49:37 GMT", "Accept-Ranges", "bytes"))
	checkPath(t, "/d/index.html", nil, 0, answered("index", "Content-Type", "text/html; charset=utf-8", "ETag", tagOf(t, l[0]), "Accept-Ranges", "bytes"))
	checkPath(t, "/d/e/f", nil, 0, answered("", "Content-Type", "a/b", "ETag", tagOf(t, l[2]), "Last-Modified", "Thu, 01 Jan 1970 00:00:00 GMT", "Accept-Ranges", "bytes"))
	checkPath(t, "/w", nil, 0, answered("packed", "Content-Type", "text/plain", "Content-Encoding", "gzip", "ETag", tagOf(t, l[6]), "Last-Modified", "Fri, 31 Dec 9999 23:59:59 GMT", "Accept-Ranges", "bytes"))
	checkPath(t, "/~a/%2F", nil, 0, answered("odd", "Content-Type", "a/b", "ETag", tagOf(t, l[7]), "Last-Modified", "Mon, 01 Jan 0001 00:00:00 GMT", "Accept-Ranges", "bytes"))
}

// 18.2: with all the fields that there may be: the variant that is liked, and what the choice hangs on.
func TestFileOfAWish(t *testing.T) {
	l := someFiles()
	vary := "Accept-Encoding, Accept-Language"
	german := answered("hallo", "Content-Type", "text/plain", "Content-Language", "de", "ETag", tagOf(t, l[3]), "Accept-Ranges", "bytes", "Vary", vary)
	english := answered("hello", "Content-Type", "text/plain", "Content-Language", "en", "ETag", tagOf(t, l[4]), "Accept-Ranges", "bytes", "Vary", vary)
	packed := answered("packed", "Content-Type", "text/plain", "Content-Encoding", "gzip", "Content-Language", "en", "ETag", tagOf(t, l[5]),
		"Last-Modified", "Thu, 01 Jan 1970 00:00:01 GMT", "Accept-Ranges", "bytes", "Vary", vary)
	checkPath(t, "/v", nil, 0, german)
	checkPath(t, "/v", fields("Accept-Language", "en"), 0, english)
	checkPath(t, "/v", fields("ACCEPT-language", "en", "accept-ENCODING", "gzip"), 0, packed)
	checkPath(t, "/v", fields("Accept-Encoding", "gzip;q=0.5", "Accept-Encoding", "identity;q=0.1"), 0, packed)
	checkPath(t, "/v", fields("Accept-Language", "en;q=0.1", "X", "y", "Accept-Language", "de"), 0, german)
	checkPath(t, "/v", fields("Accept", "text/*", "Accept-Language", "en", "Accept-Encoding", ""), 0, english)
	checkPath(t, "/v", fields("Accept-Language", "\"no list"), 0, german)
}

// 18.2: variants of which none is liked: what the choice hangs on stands there too, if it hangs on anything.
func TestUnliked(t *testing.T) {
	checkPath(t, "/v", fields("Accept-Language", "fr"), 0, plain(406, "Not Acceptable", "Vary", "Accept-Encoding, Accept-Language"))
	checkPath(t, "/v", fields("Accept", "image/png"), 0, plain(406, "Not Acceptable", "Vary", "Accept-Encoding, Accept-Language"))
	checkPath(t, "/w", fields("Accept-Encoding", "identity"), 0, plain(406, "Not Acceptable"))
	checkPath(t, "/d/x.txt", fields("Accept", "image/png"), 1, plain(406, "Not Acceptable"))
	checkPath(t, "/d/", fields("Accept", "image/png"), 1, plain(406, "Not Acceptable"))
}

// 18.2: a path is looked for in its normal form.
func TestNormalPath(t *testing.T) {
	l := someFiles()
	want := answered("odd", "Content-Type", "a/b", "ETag", tagOf(t, l[7]), "Last-Modified", "Mon, 01 Jan 0001 00:00:00 GMT", "Accept-Ranges", "bytes")
	for _, path := range []string{"/~a/%2F", "/%7ea/%2f", "/x/../~a/./%2f", "/../%7Ea/%2F"} {
		checkPath(t, path, nil, 0, want)
	}
	checkPath(t, "/~a//", nil, 0, plain(404, "Not Found"))
	checkPath(t, "/d/e/..", nil, 0, answered("index", "Content-Type", "text/html; charset=utf-8", "ETag", tagOf(t, l[0]), "Accept-Ranges", "bytes"))
}

// 18.2: what is no path is answered so, ahead of all else.
func TestNoPath(t *testing.T) {
	for _, path := range []string{"", "a", "a b", "/a b", "/%", "/%4", "/%zz", "/\xff", "/a?b", "*", "d/x.txt"} {
		checkPath(t, path, nil, 0, plain(400, "Bad Request"))
		checkPath(t, path, nil, 1, plain(400, "Bad Request"))
	}
}

// 18.2: a directory with an index is that; one without is listed, if N says so; what is not there is not found.
func TestDirectory(t *testing.T) {
	l := someFiles()
	index := answered("index", "Content-Type", "text/html; charset=utf-8", "ETag", tagOf(t, l[0]), "Accept-Ranges", "bytes")
	checkPath(t, "/d/", nil, 0, index)
	checkPath(t, "/d/", nil, 1, index)
	checkPath(t, "/d/e/", nil, 1, text("f\ng/\n"))
	checkPath(t, "/d/e/", nil, 0, plain(404, "Not Found"))
	checkPath(t, "/d/./e/", nil, 1, text("f\ng/\n"))
	checkPath(t, "/", nil, 1, text("d/\nv\nw\n~a/\n"))
	checkPath(t, "/", nil, 0, plain(404, "Not Found"))
	for _, path := range []string{"/x", "/d/x", "/d/x.txt/", "/D/", "/v/", "/d/index.html/"} {
		checkPath(t, path, nil, 0, plain(404, "Not Found"))
		checkPath(t, path, nil, 1, plain(404, "Not Found"))
	}
}

// 18.2: a path that lacks a slash goes to the target's path, as it stands, with one, and with the query.
func TestSlash(t *testing.T) {
	moved := func(to string) api.Response { return plain(301, "Moved Permanently", "Location", to) }
	checkPath(t, "/d", nil, 0, moved("/d/"))
	checkPath(t, "/d/e", nil, 1, moved("/d/e/"))
	checkPath(t, "/%64/./e", nil, 0, moved("/%64/./e/"))
	s := newShelf(t, someFiles()...)
	h := api.Handler{Kind: api.HandleStatic}
	checkAnswer(t, h, api.Asked{Target: api.Target{Path: "/d", Query: "a=%41&b", HasQuery: true}}, s, moved("/d/?a=%41&b"))
	checkAnswer(t, h, api.Asked{Target: api.Target{Path: "/d", HasQuery: true}}, s, moved("/d/?"))
	checkAnswer(t, h, api.Asked{Target: api.Target{Form: api.FormAbsolute, Host: "h", Port: 80, Path: "/d"}}, s, moved("/d/"))
	h.Name = "r"
	checkAnswer(t, h, api.Asked{Target: api.Target{Path: "/files/d", Query: "q", HasQuery: true}, Params: params("r", "d")}, s, moved("/files/d/?q"))
}

// 18.2: with a name the path is what the route's parameter says, raw, behind a slash.
func TestFileOfParameter(t *testing.T) {
	l := someFiles()
	s := newShelf(t, l...)
	h := api.Handler{Kind: api.HandleStatic, Name: "r", N: 1}
	ask := func(want api.Response, all ...string) {
		t.Helper()
		a := api.Asked{Target: api.Target{Path: "/v"}, Params: params(all...)}
		checkAnswer(t, h, a, s, want)
	}
	root := text("d/\nv\nw\n~a/\n")
	deep := answered("deep", "Content-Type", "a/b", "ETag", tagOf(t, l[8]), "Accept-Ranges", "bytes")
	odd := answered("odd", "Content-Type", "a/b", "ETag", tagOf(t, l[7]), "Last-Modified", "Mon, 01 Jan 0001 00:00:00 GMT", "Accept-Ranges", "bytes")
	ask(deep, "r", "d/e/g/h")
	ask(deep, "q", "v", "r", "d/e/g/h", "r", "v")
	ask(deep, "r", "/../x/.././d//../e/g/h")
	ask(odd, "r", "%7Ea/%2f")
	ask(root, "r", "")
	ask(root)
	ask(root, "R", "v", "rr", "w")
	ask(plain(404, "Not Found"), "r", "/v")
	ask(plain(400, "Bad Request"), "r", "%")
	ask(plain(400, "Bad Request"), "r", "a b")
	ask(plain(301, "Moved Permanently", "Location", "/v/"), "r", "d")
}

// 18.2: a nil shelf has no files.
func TestNoShelf(t *testing.T) {
	for _, s := range []*shelf.Shelf{nil, newShelf(t)} {
		for _, path := range []string{"/", "/d", "/d/", "/index.html"} {
			for n := range 2 {
				a := api.Asked{Target: api.Target{Path: path}}
				checkAnswer(t, api.Handler{Kind: api.HandleStatic, N: n}, a, s, plain(404, "Not Found"))
			}
		}
		checkAnswer(t, api.Handler{Kind: api.HandleStatic}, api.Asked{Target: api.Target{Path: "a"}}, s, plain(400, "Bad Request"))
	}
}

// 18.2, 18.4: all short paths against the model, and what is answered with 200 is a file's body, or a directory's entries.
func TestStaticByModel(t *testing.T) {
	l := someFiles()
	s := newShelf(t, l...)
	bodies := map[string]int{}
	for _, f := range l {
		bodies[f.Body] = 1
	}
	wishes := [][]api.Field{nil, fields("Accept-Language", "en"), fields("Accept-Encoding", "gzip", "accept-encoding", "*;q=0")}
	i := 0
	for path := range texts([]string{"/", "d", "e", "v", "w", ".", "..", "%64", "~a", "%2F", "f", "%"}, 4) {
		i++
		h := api.Handler{Kind: api.HandleStatic, N: i % 2}
		a := api.Asked{Request: api.Request{Fields: wishes[i%3]}, Target: api.Target{Path: path, Query: "q", HasQuery: i%5 > 2}, Params: params("r", path)}
		for _, h.Name = range []string{"", "r"} {
			r := handle.Answer(h, a, s)
			if !same(r, modelAnswer(h, a, l)) {
				t.Fatalf("Answer(%s, %s): %s", show(h), show(a), show(r))
			}
			if r.Status == 200 && bodies[r.Body] == 0 && (h.N == 0 || !strings.HasSuffix(r.Body, "\n")) {
				t.Fatalf("at %q: %s", path, show(r))
			}
		}
	}
}

func checkWish(t *testing.T, l []api.Field, want api.Wish) {
	t.Helper()
	kept := slices.Clone(l)
	if w := handle.Wish(l); w != want || !slices.Equal(l, kept) {
		t.Errorf("Wish(%s): %s, wanted %s", show(kept), show(w), show(want))
	}
}

// 18.3: what three fields say, joined, and whether they are there, also if they are empty.
func TestWish(t *testing.T) {
	checkWish(t, nil, api.Wish{})
	checkWish(t, fields("X-Accept", "a", "Accept-Ranges", "b", "Accept-Charset", "c", "", "d"), api.Wish{})
	checkWish(t, fields("Accept", "a/b"), api.Wish{Accept: "a/b", HasAccept: true})
	checkWish(t, fields("Accept-Encoding", "gzip"), api.Wish{Coding: "gzip", HasCoding: true})
	checkWish(t, fields("Accept-Language", "de"), api.Wish{Language: "de", HasLanguage: true})
	checkWish(t, fields("ACCEPT", "", "accept-encoding", "", "Accept-language", ""), api.Wish{HasAccept: true, HasCoding: true, HasLanguage: true})
	checkWish(t, fields("Accept", "a", "Accept-Language", "x", "accept", "b", "Accept-Encoding", "y", "ACCEPT", "", "accept-language", "z"),
		api.Wish{Accept: "a, b, ", HasAccept: true, Coding: "y", HasCoding: true, Language: "x, z", HasLanguage: true})
	checkWish(t, fields("Accept", "\"\x00\xff, ;"), api.Wish{Accept: "\"\x00\xff, ;", HasAccept: true})
}
