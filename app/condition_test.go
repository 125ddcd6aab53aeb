package app_test

import (
	"fmt"
	"slices"
	"strings"
	"testing"

	"turnpike/api"
	"turnpike/field"
)

const (
	fileTag  = "\"ed2db7e4006b0efc-10\""
	fileTime = "Sun, 06 Nov 1994 08:49:37 GMT"
	fileHead = "Content-Type: text/plain|ETag: " + fileTag + "|Last-Modified: " + fileTime + "|Accept-Ranges: bytes|"
	fileLine = "GET /f/x.txt HTTP/1.1|"
)

// 21.2: the chapter's third example.
func TestFileExample(t *testing.T) {
	const ranged = "HTTP/1.1 206 Partial Content|"
	check(t, example, "GET /f/x.txt HTTP/1.1", "HTTP/1.1 200 OK|"+fileHead+"Content-Length: 10||0123456789", of(2))
	check(t, example, fileLine+"Range: bytes=2-4||", ranged+fileHead+"Content-Range: bytes 2-4/10|Content-Length: 3||234", of(2))
	check(t, example, fileLine+"Range: bytes=20-||", plainly("416", "Range Not Satisfiable", "Content-Range: bytes */10|", ""), of(2))
	check(t, example, fileLine+"Range: bytes=0-9||", "HTTP/1.1 200 OK|"+fileHead+"Content-Length: 10||0123456789", of(2))
	check(t, example, fileLine+"If-None-Match: *||", "HTTP/1.1 304 Not Modified|ETag: "+fileTag+"|Last-Modified: "+fileTime+"||", of(2))
	check(t, example, "HEAD /f/x.txt HTTP/1.1|Range: bytes=2-4||", "HTTP/1.1 200 OK|"+fileHead+"Content-Length: 10||", of(2))
	check(t, example, fileLine+"Range: bytes=0-0,-1||", ranged+"ETag: "+fileTag+"|Last-Modified: "+fileTime+"|Accept-Ranges: bytes|Content-Type: multipart/byteranges; boundary=part0|Content-Length: 151||"+
		"|--part0|Content-Type: text/plain|Content-Range: bytes 0-0/10||0|--part0|Content-Type: text/plain|Content-Range: bytes 9-9/10||9|--part0--|", of(2))
}

// statusOf is the status that an app says to a request, which is held against the model.
func statusOf(t *testing.T, text, request string) int {
	t.Helper()
	c := configured(t, text)
	a := madeOf(t, c)
	checkModel(t, a, c, ask(request), 1)
	return a.Answer(ask(request), 1).Response.Status
}

// 21.2: preconditions are decided by the response's tag and time.
func TestPreconditions(t *testing.T) {
	const dayAgo, dayOn = "Sat, 05 Nov 1994 08:49:37 GMT", "Mon, 07 Nov 1994 08:49:37 GMT"
	for _, x := range []struct {
		lines  string
		status int
	}{
		{"If-Match: *", 200},
		{"If-Match: " + fileTag, 200},
		{"If-Match: W/" + fileTag, 412},
		{"If-Match: \"x\", " + fileTag, 200},
		{"If-Match: \"x\"", 412},
		{"If-Match: x", 412},
		{"If-Match: \"x\"|If-None-Match: *", 412},
		{"If-Unmodified-Since: " + fileTime, 200},
		{"If-Unmodified-Since: " + dayAgo, 412},
		{"If-Unmodified-Since: " + dayAgo + "|If-Match: " + fileTag, 200},
		{"If-None-Match: *", 304},
		{"If-None-Match: " + fileTag, 304},
		{"If-None-Match: W/" + fileTag, 304},
		{"If-None-Match: \"x\"", 200},
		{"if-none-match: \"x\"|IF-NONE-MATCH: " + fileTag, 304},
		{"If-Modified-Since: " + fileTime, 304},
		{"If-Modified-Since: " + dayOn, 304},
		{"If-Modified-Since: " + dayAgo, 200},
		{"If-Modified-Since: " + fileTime + "|If-None-Match: \"x\"", 200},
		{"If-Modified-Since: " + fileTime + "|If-Match: \"x\"", 412},
		{"If-Modified-Since: yesterday", 200},
	} {
		for _, method := range []string{"GET", "HEAD"} {
			if s := statusOf(t, example, method+" /f/x.txt HTTP/1.1|"+x.lines+"||"); s != x.status {
				t.Errorf("%s, %s: %d", method, x.lines, s)
			}
		}
	}
}

// 21.2: preconditions are looked at of 200 to GET and HEAD alone.
func TestNoPreconditions(t *testing.T) {
	const routes = "route GET /a { status 404; } route GET /b { text 203 a/b x; } route GET /d { text 200 a/b x; } route PUT POST get OPTIONS /d { text 200 a/b x; } route GET /e { status 204; } route GET /r { redirect 302 /x; }"
	const lines = " HTTP/1.1|If-Match: \"x\"||"
	for request, status := range map[string]int{
		"GET /a": 404, "GET /b": 203, "HEAD /b": 203, "GET /d": 412, "HEAD /d": 412, "PUT /d": 200, "POST /d": 200, "get /d": 200, "OPTIONS /d": 200, "GET /e": 204, "GET /r": 302, "GET /none": 404, "GET /%": 400,
	} {
		if s := statusOf(t, routes, request+lines); s != status {
			t.Errorf("%s: %d", request, s)
		}
		if s := statusOf(t, "middle set ETag \"\\\"x\\\"\";"+routes, request+" HTTP/1.1|If-None-Match: \"x\"||"); (s == 304) != (status == 412) {
			t.Errorf("%s with a tag: %d", request, s)
		}
	}
}

// 21.2: 304 leaves out what tells of a body, and no more; 412 tells tags and times as they stood, tags ahead.
func TestConditionalFields(t *testing.T) {
	const text = `route GET /a {
middle add last-MODIFIED "Sun, 06 Nov 1994 08:49:37 GMT"; middle add eTAG "\"b\""; middle add ETag "\"a\""; middle add Last-Modified x;
middle add X 1; middle add content-encoding gzip; middle add CONTENT-LANGUAGE de; middle add accept-ranges none; middle add Accept-Ranges bytes;
middle add content-type a/b; middle add Content-Location /a; middle add Content 2; middle add Content-Length 7;
text 200 text/plain hello; }`
	check(t, text, "GET /a HTTP/1.1|If-None-Match: *||",
		"HTTP/1.1 304 Not Modified|Content: 2|Content-Location: /a|X: 1|Last-Modified: x|ETag: \"a\"|eTAG: \"b\"|last-MODIFIED: Sun, 06 Nov 1994 08:49:37 GMT||", of(0))
	check(t, text, "HEAD /a HTTP/1.1|If-None-Match: *||",
		"HTTP/1.1 304 Not Modified|Content: 2|Content-Location: /a|X: 1|Last-Modified: x|ETag: \"a\"|eTAG: \"b\"|last-MODIFIED: Sun, 06 Nov 1994 08:49:37 GMT||", of(0))
	check(t, text, "GET /a HTTP/1.1|If-Match: \"x\"||",
		plainly("412", "Precondition Failed", "ETag: \"a\"|eTAG: \"b\"|Last-Modified: x|last-MODIFIED: Sun, 06 Nov 1994 08:49:37 GMT|", ""), of(0))
	check(t, "route /a { echo; }", "GET /a HTTP/1.1|If-Match: \"x\"||", plainly("412", "Precondition Failed", "", ""), of(0))
}

// 21.2: a resource has a tag, or a time, if its response tells just one that is right.
func TestStates(t *testing.T) {
	of := func(lines string) string {
		return "route GET /a { " + lines + " text 200 a/b hello; }"
	}
	const tag, other, wrong = `middle add ETag "\"a\"";`, `middle add eTag "W/\"b\"";`, `middle add etag "a";`
	const time, long, never = `middle add Last-Modified "Sun, 06 Nov 1994 08:49:37 GMT";`, `middle add last-modified "Sunday, 06-Nov-94 08:49:37 GMT";`, `middle add Last-Modified never;`
	for _, x := range []struct {
		lines, request string
		status         int
	}{
		{tag, "If-Match: \"a\"", 200},
		{other, "If-None-Match: \"b\"", 304},
		{other, "If-Match: \"b\"", 412},
		{"", "If-Match: \"a\"", 412},
		{wrong, "If-Match: \"a\"", 412},
		{wrong, "If-None-Match: \"\"", 200},
		{tag + other, "If-Match: \"a\"", 412},
		{tag + other, "If-None-Match: \"a\", \"b\"", 200},
		{tag + tag, "If-None-Match: \"a\"", 200},
		{tag + wrong, "If-None-Match: \"a\"", 200},
		{"", "If-None-Match: *", 304},
		{"", "If-Match: *", 200},
		{time, "If-Modified-Since: " + fileTime, 304},
		{long, "If-Modified-Since: " + fileTime, 304},
		{never, "If-Modified-Since: " + fileTime, 200},
		{never, "If-Unmodified-Since: Thu, 01 Jan 1970 00:00:00 GMT", 200},
		{time + time, "If-Modified-Since: " + fileTime, 200},
		{time + never, "If-Modified-Since: " + fileTime, 200},
		{time, "If-Unmodified-Since: Sat, 05 Nov 1994 08:49:37 GMT", 412},
		{time + long, "If-Unmodified-Since: Sat, 05 Nov 1994 08:49:37 GMT", 200},
		{"", "If-Modified-Since: " + fileTime, 200},
	} {
		if s := statusOf(t, of(x.lines), "GET /a HTTP/1.1|"+x.request+"||"); s != x.status {
			t.Errorf("%s of %s: %d", x.request, x.lines, s)
		}
	}
}

// 21.2: dates with years of two digits are read near the app's moment, which is 0 where there is no date.
func TestMoment(t *testing.T) {
	// The 6th of November was a Sunday in 1994, and is a Saturday in 2094.
	const in2094, in1994 = "Saturday, 06-Nov-94 08:49:37 GMT", "Sunday, 06-Nov-94 08:49:37 GMT"
	const at2094, at1994 = "3939871777", "784111777"
	for _, x := range []struct {
		date, time, since string
		status            int
	}{
		{"-1", at1994, in1994, 304},
		{"-1", at1994, in2094, 200},
		{"0", at1994, in1994, 304},
		{"4102444800", at2094, in2094, 304},
		{"4102444800", at2094, in1994, 200},
		{"4102444800", at1994, in2094, 304},
		{at1994, at1994, in1994, 304},
	} {
		text := "date " + x.date + "; route GET /*r { static r 0; } file /x { body 0123456789; time " + x.time + "; }"
		if s := statusOf(t, text, "GET /x HTTP/1.1|If-Modified-Since: "+x.since+"||"); s != x.status {
			t.Errorf("%v: %d", x, s)
		}
		want := 200
		if x.status == 304 && x.time == at2094 == (x.since == in2094) {
			want = 206
		}
		if s := statusOf(t, text, "GET /x HTTP/1.1|Range: bytes=0-0|If-Range: "+x.since+"||"); s != want {
			t.Errorf("%v, a part: %d", x, s)
		}
	}
	// The response's own time is read so, too.
	for date, status := range map[string]int{"-1": 200, "4102444800": 304} {
		text := "date " + date + "; route GET /a { middle add Last-Modified \"" + in2094 + "\"; text 200 a/b x; }"
		if s := statusOf(t, text, "GET /a HTTP/1.1|If-Modified-Since: Sat, 06 Nov 2094 08:49:37 GMT||"); s != status {
			t.Errorf("of a response, at %s: %d", date, s)
		}
	}
}

// 21.2: ranges are looked at of 200 to GET that says that it takes them, for one field Range.
func TestWhenRanged(t *testing.T) {
	const bytes, none = "middle add Accept-Ranges bytes;", "middle add accept-ranges none;"
	// Chains are gone through from the front on the way in, so what is added first stands last.
	for _, x := range []struct {
		chain, handler, request string
		status                  int
	}{
		{bytes, "text 200 a/b 0123456789", "GET /a HTTP/1.1|Range: bytes=0-0", 206},
		{"middle add ACCEPT-RANGES bytes;", "text 200 a/b 0123456789", "GET /a HTTP/1.1|rANGE: BYTES=0-0", 206},
		{none + bytes, "text 200 a/b 0123456789", "GET /a HTTP/1.1|Range: bytes=0-0", 206},
		{bytes + none, "text 200 a/b 0123456789", "GET /a HTTP/1.1|Range: bytes=0-0", 200},
		{"", "text 200 a/b 0123456789", "GET /a HTTP/1.1|Range: bytes=0-0", 200},
		{none, "text 200 a/b 0123456789", "GET /a HTTP/1.1|Range: bytes=0-0", 200},
		{"middle add Accept-Ranges Bytes;", "text 200 a/b 0123456789", "GET /a HTTP/1.1|Range: bytes=0-0", 200},
		{"middle add Accept-Ranges \"bytes, none\";", "text 200 a/b 0123456789", "GET /a HTTP/1.1|Range: bytes=0-0", 200},
		{bytes, "text 200 a/b 0123456789", "GET /a HTTP/1.1|Range: bytes=0-0|Range: bytes=0-0", 200},
		{bytes, "text 200 a/b 0123456789", "GET /a HTTP/1.1", 200},
		{bytes, "text 200 a/b 0123456789", "HEAD /a HTTP/1.1|Range: bytes=0-0", 200},
		{bytes, "text 200 a/b 0123456789", "PUT /a HTTP/1.1|Range: bytes=0-0", 200},
		{bytes, "text 200 a/b 0123456789", "PUT /a HTTP/1.1|Range: bytes=99-", 200},
		{bytes, "text 201 a/b 0123456789", "GET /a HTTP/1.1|Range: bytes=0-0", 201},
		{bytes, "text 404 a/b 0123456789", "GET /a HTTP/1.1|Range: bytes=99-", 404},
		{bytes, "text 200 a/b 0123456789", "GET /a HTTP/1.1|Range: bytes=0-0|If-Range: \"a\"", 200},
		{bytes + "middle add ETag \"\\\"a\\\"\";", "text 200 a/b 0123456789", "GET /a HTTP/1.1|Range: bytes=0-0|If-Range: \"a\"", 206},
		{bytes + "middle add ETag \"\\\"a\\\"\";", "text 200 a/b 0123456789", "GET /a HTTP/1.1|Range: bytes=99-|If-Range: \"b\"", 200},
		{bytes + "middle add ETag \"\\\"a\\\"\";", "text 200 a/b 0123456789", "GET /a HTTP/1.1|Range: bytes=0-0|If-Range: \"a\"|If-Range: \"a\"", 200},
		{bytes, "text 200 a/b 0123456789", "GET /a HTTP/1.1|Range: bytes=99-|If-Match: \"x\"", 412},
		{bytes, "text 200 a/b 0123456789", "GET /a HTTP/1.1|Range: bytes=0-0|If-None-Match: *", 304},
		{bytes, "text 200 a/b 0123456789", "GET /a HTTP/1.1|Range: bytes=0-0|If-None-Match: \"x\"", 206},
	} {
		if s := statusOf(t, "route /a { "+x.chain+x.handler+"; }", x.request+"||"); s != x.status {
			t.Errorf("%s %s, %s: %d", x.chain, x.handler, x.request, s)
		}
	}
}

// 21.2: what is asked for is merged, and sent only if that is less than all, and not too many pieces.
func TestRanges(t *testing.T) {
	const text = "route GET /a { middle add Accept-Ranges bytes; text 200 a/b 0123456789; }"
	for spec, want := range map[string]string{
		"bytes=0-0":                   "0",
		"bytes=9-":                    "9",
		"bytes=-1":                    "9",
		"bytes=1-99":                  "123456789",
		"bytes=2-4, 3-5":              "2345",
		"bytes=5-6,2-4":               "23456",
		"bytes=0-3,4-8":               "012345678",
		"bytes=7-,99-":                "789",
		"bytes=0-1,1-8,99-":           "012345678",
		"bytes=4-4,4-4":               "4",
		"bytes=0-9":                   "all",
		"bytes=0-":                    "all",
		"bytes=-10":                   "all",
		"bytes=-99":                   "all",
		"bytes=5-,0-4":                "all",
		"bytes=0-4,3-9":               "all",
		"":                            "all",
		"bytes":                       "all",
		"bytes=":                      "all",
		"bytes=4-3":                   "all",
		"bytes=a-":                    "all",
		"bytes=0-0,x":                 "all",
		"items=0-0":                   "all",
		"bytes=10-":                   "none",
		"bytes=10-20, 99-":            "none",
		"bytes=-0":                    "none",
		"bytes=99999999999999999-":    "none",
		"bytes=1-9223372036854775807": "123456789",
	} {
		r := ask("GET /a HTTP/1.1|Range: " + spec + "||")
		c := configured(t, text)
		a := madeOf(t, c)
		checkModel(t, a, c, r, 1)
		x := a.Answer(r, 1).Response
		where, told := field.Find(x.Fields, "Content-Range")
		switch want {
		case "all":
			if x.Status != 200 || x.Body != "0123456789" || told {
				t.Errorf("%s: %s", spec, show(x))
			}
		case "none":
			if x.Status != 416 || where != "bytes */10" {
				t.Errorf("%s: %s", spec, show(x))
			}
		default:
			from := strings.Index("0123456789", want)
			if x.Status != 206 || x.Body != want || where != fmt.Sprintf("bytes %d-%d/10", from, from+len(want)-1) {
				t.Errorf("%s: %s", spec, show(x))
			}
		}
	}
}

// 21.2: at most 16 pieces are sent, counted when they are merged.
func TestManySpans(t *testing.T) {
	body := strings.Repeat("0123456789", 10)
	text := "route GET /a { middle add Accept-Ranges bytes; text 200 a/b " + body + "; }"
	for count, status := range map[int]int{2: 206, 15: 206, 16: 206, 17: 200, 33: 200} {
		var l []string
		for i := range count {
			l = append(l, fmt.Sprintf("%d-%d", 3*i, 3*i))
		}
		if s := statusOf(t, text, "GET /a HTTP/1.1|Range: bytes="+strings.Join(l, ",")+"||"); s != status {
			t.Errorf("%d spans: %d", count, s)
		}
		twice := strings.Join(slices.Concat(l, l), ",")
		if s := statusOf(t, text, "GET /a HTTP/1.1|Range: bytes="+twice+"||"); s != status {
			t.Errorf("%d spans, each twice: %d", count, s)
		}
		if s := statusOf(t, text, "GET /a HTTP/1.1|Range: bytes="+strings.Join(l, ",")+",0-97||"); s != 206 {
			t.Errorf("%d spans in a greater one: %d", count, s)
		}
	}
}

// 21.2: of an empty body no range can be met.
func TestEmptyBody(t *testing.T) {
	const text = "route GET /a { middle add Accept-Ranges bytes; text 200 a/b \"\"; }"
	check(t, text, "GET /a HTTP/1.1|Range: bytes=0-||", plainly("416", "Range Not Satisfiable", "Content-Range: bytes */0|", ""), of(0))
	check(t, text, "GET /a HTTP/1.1|Range: bytes=x||", "HTTP/1.1 200 OK|Content-Type: a/b|Accept-Ranges: bytes|Content-Length: 0||", of(0))
}

// 21.2: the fields of parts: one part leaves all, several take the place of the media type, which each of them tells.
func TestPartFields(t *testing.T) {
	route := func(chain string) string {
		return "name s; route GET /a { middle add Accept-Ranges bytes; " + chain + " text 200 a/b --part0--part1x; }"
	}
	part := func(media, where, body string) string {
		return "|--part2|Content-Type: " + media + "|Content-Range: bytes " + where + "/15||" + body
	}
	parts := func(media string) string {
		return part(media, "0-0", "-") + part(media, "13-14", "1x") + "|--part2--|"
	}
	// The parts are as long as their text, with | for two bytes.
	length := func(s string) string { return fmt.Sprintf("Content-Length: %d||%s", len(wire(s)), s) }
	const multi = "Content-Type: multipart/byteranges; boundary=part2|Server: s|"
	check(t, route("middle add Content-Range x; middle add Content-Encoding gzip;"), "GET /a HTTP/1.1|Range: bytes=1-1||",
		"HTTP/1.1 206 Partial Content|Content-Type: a/b|Content-Encoding: gzip|Content-Range: x|Accept-Ranges: bytes|Content-Range: bytes 1-1/15|Server: s|Content-Length: 1||-", of(0))
	check(t, route("middle add Content-Range x;"), "GET /a HTTP/1.1|Range: bytes=-2,0-0||",
		"HTTP/1.1 206 Partial Content|Content-Range: x|Accept-Ranges: bytes|"+multi+length(parts("a/b")), of(0))
	check(t, route("middle add content-TYPE c/d;"), "GET /a HTTP/1.1|Range: bytes=-2,0-0||",
		"HTTP/1.1 206 Partial Content|Accept-Ranges: bytes|"+multi+length(parts("a/b")), of(0))
	check(t, route("middle set content-type \"\";"), "GET /a HTTP/1.1|Range: bytes=-2,0-0||",
		"HTTP/1.1 206 Partial Content|Accept-Ranges: bytes|"+multi+length(parts("")), of(0))
	check(t, route("middle drop Content-Type;"), "GET /a HTTP/1.1|Range: bytes=-2,0-0||",
		"HTTP/1.1 206 Partial Content|Accept-Ranges: bytes|"+multi+length(parts("application/octet-stream")), of(0))
	check(t, route("middle drop Content-Type;"), "GET /a HTTP/1.1|Range: bytes=-2||",
		"HTTP/1.1 206 Partial Content|Accept-Ranges: bytes|Content-Range: bytes 13-14/15|Server: s|Content-Length: 2||1x", of(0))
}

// 21.2: what is sent in parts may be longer than the body: only the bytes that are asked for count.
func TestLongParts(t *testing.T) {
	const text = "route GET /a { middle add Accept-Ranges bytes; text 200 a/b 012; }"
	c := configured(t, text)
	x := madeOf(t, c).Answer(ask("GET /a HTTP/1.1|Range: bytes=0-0,2-2||"), 1).Response
	if x.Status != 206 || len(x.Body) < 100 || !slices.Contains(x.Fields, api.Field{Name: "Content-Type", Value: "multipart/byteranges; boundary=part0"}) {
		t.Error(show(x))
	}
}
