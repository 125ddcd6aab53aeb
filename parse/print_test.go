package parse_test

import (
	"slices"
	"strconv"
	"strings"
	"testing"

	"turnpike/api"
	"turnpike/parse"
)

func checkPrint(t *testing.T, r api.Request, want string, wantErr api.Errno) {
	t.Helper()
	if s, err := parse.Print(r); s != want || err != wantErr {
		t.Errorf("Print(%s): %.300q, %d; want %.300q, %d", show(r), s, err, want, wantErr)
	}
}

func checkPrintErr(t *testing.T, r api.Request, want api.Errno) {
	t.Helper()
	checkPrint(t, r, "", want)
}

func length(s string) api.Field { return api.Field{Name: "Content-Length", Value: s} }

var (
	inChunks = api.Field{Name: "Transfer-Encoding", Value: "chunked"}
	trailer  = api.Field{Name: "A", Value: "1"}
)

// 11.8: requests as bytes.
func TestPrint(t *testing.T) {
	checkPrint(t, request("GET", "/", 1, hostA), lines("GET / HTTP/1.1|Host: a||"), api.OK)
	checkPrint(t, request("GET", "/", 1), lines("GET / HTTP/1.1||"), api.OK) // a host that is missing is not Print's to tell
	checkPrint(t, request("m", "~", 0), lines("m ~ HTTP/1.0||"), api.OK)
	checkPrint(t, request("GET", "%", 0), lines("GET % HTTP/1.0||"), api.OK) // nor a target that target.Parse refuses
	checkPrint(t, with(request("PUT", "/a?b", 0, length("3"), api.Field{Name: "B"}), "a\rb"), lines("PUT /a?b HTTP/1.0|Content-Length: 3|B:||a\rb"), api.OK)
	checkPrint(t, request("PUT", "/", 0, length("00, 0")), lines("PUT / HTTP/1.0|Content-Length: 00, 0||"), api.OK)
	checkPrint(t, with(request("PUT", "/", 1, inChunks), "abc", trailer), lines("PUT / HTTP/1.1|Transfer-Encoding: chunked||3|abc|0|A: 1||"), api.OK)
	checkPrint(t, request("PUT", "/", 1, inChunks), lines("PUT / HTTP/1.1|Transfer-Encoding: chunked||0||"), api.OK)
	checkPrint(t, with(request("PUT", "/", 1, inChunks), strings.Repeat("x", 1000)), lines("PUT / HTTP/1.1|Transfer-Encoding: chunked||3e8|"+strings.Repeat("x", 1000)+"|0||"), api.OK)
	checkPrint(t, request("PUT", "/", 1, api.Field{Name: "Expect", Value: "x"}), lines("PUT / HTTP/1.1|Expect: x||"), api.OK)
	full := strings.Repeat("M", 24)
	checkPrint(t, request(full, "/", 0), full+" / HTTP/1.0\r\n\r\n", api.OK)
	long := "/" + strings.Repeat("a", 100000)
	checkPrint(t, request("GET", long, 0), "GET "+long+" HTTP/1.0\r\n\r\n", api.OK)
}

// 11.8: each error.
func TestPrintErrors(t *testing.T) {
	for _, s := range []string{"", " ", "G T", "GET ", "G\n", strings.Repeat("M", 25)} {
		checkPrintErr(t, request(s, "/", 1), api.ErrMethod)
	}
	for _, s := range []string{"", " ", "/ ", "/\r\n", "/\x7f", "/\x80", "\t/"} {
		checkPrintErr(t, request("GET", s, 1), api.ErrLine)
	}
	for c := range 256 {
		s := string([]byte{'/', byte(c), 'x'})
		if c >= 33 && c <= 126 {
			checkPrint(t, request("GET", s, 0), "GET "+s+" HTTP/1.0\r\n\r\n", api.OK)
		} else {
			checkPrintErr(t, request("GET", s, 0), api.ErrLine)
		}
	}
	for _, v := range [][2]int{{0, 0}, {0, 1}, {0, 9}, {2, 0}, {2, 1}, {1, 2}, {1, -1}, {-1, 1}, {10, 0}, {11, 1}} {
		r := request("GET", "/", v[1])
		r.Major = v[0]
		checkPrintErr(t, r, api.ErrVersion)
	}
	checkPrintErr(t, request("GET", "/", 1, api.Field{Name: "", Value: "x"}), api.ErrName)
	checkPrintErr(t, request("GET", "/", 1, hostA, api.Field{Name: "A", Value: "x "}), api.ErrValue)
	checkPrintErr(t, request("GET", "/", 1, slices.Repeat([]api.Field{trailer}, 101)...), api.ErrMany)
	checkPrintErr(t, request("GET", "/", 0, inChunks), api.ErrCodings)
	checkPrintErr(t, request("GET", "/", 1, api.Field{Name: "Transfer-Encoding", Value: "gzip"}), api.ErrCodings)
	checkPrintErr(t, request("GET", "/", 1, length("x")), api.ErrLengths)
	checkPrintErr(t, request("GET", "/", 1, length("0"), inChunks), api.ErrBoth)
	checkPrintErr(t, with(request("GET", "/", 1), "x"), api.ErrBody)
	checkPrintErr(t, with(request("GET", "/", 1, length("0")), "x"), api.ErrBody)
	checkPrintErr(t, with(request("GET", "/", 1, length("2")), "x"), api.ErrBody)
	checkPrintErr(t, with(request("GET", "/", 1, length("2")), "xyz"), api.ErrBody)
	checkPrintErr(t, request("GET", "/", 1, length("1099511627776")), api.ErrBody)
	checkPrintErr(t, with(request("GET", "/", 1), "", trailer), api.ErrFields)
	checkPrintErr(t, with(request("GET", "/", 1, length("1")), "x", trailer), api.ErrFields)
	checkPrintErr(t, with(request("GET", "/", 1, inChunks), "x", hostA), api.ErrTrailer)
	checkPrintErr(t, with(request("GET", "/", 1, inChunks), "x", trailer, api.Field{Name: "A", Value: "\n"}), api.ErrTrailer)
}

// 11.8, R2: where several errors apply, the first of the chapter's is told.
func TestPrintOrder(t *testing.T) {
	r := with(request("", "", 9, api.Field{}, length("x")), "x", hostA)
	for _, p := range []struct {
		err  api.Errno
		mend func()
	}{
		{api.ErrMethod, func() { r.Method = "GET" }},
		{api.ErrLine, func() { r.Target = "/" }},
		{api.ErrVersion, func() { r.Minor = 1 }},
		{api.ErrName, func() { r.Fields[0] = trailer }},
		{api.ErrLengths, func() { r.Fields[1] = length("2") }},
		{api.ErrBody, func() { r.Fields[1] = length("1") }},
		{api.ErrFields, func() { r.Fields[1] = inChunks }},
		{api.ErrTrailer, func() { r.Trailers[0] = trailer }},
	} {
		checkPrintErr(t, r, p.err)
		p.mend()
	}
	checkPrint(t, r, lines("GET / HTTP/1.1|A: 1|Transfer-Encoding: chunked||1|x|0|A: 1||"), api.OK)
}

// 11.10: Whole of what Print says is the request, and what it answers for any text is printed and read back.
func TestThereAndBack(t *testing.T) {
	bodies := []string{"", "x", "\r\n\r\n", everyByte()}
	for _, method := range []string{"GET", "!~"} {
		for _, target := range []string{"/", "/a%20?b", "http://h:1/"} {
			for minor := range 2 {
				for _, body := range bodies {
					n := length(strconv.Itoa(len(body)))
					all := []api.Request{with(request(method, target, minor, hostA, n, trailer), body)}
					if minor == 1 {
						all = append(all, with(request(method, target, minor, hostA, inChunks), body), with(request(method, target, minor, inChunks, hostA, trailer), body, trailer, api.Field{Name: "b"}))
					}
					for _, r := range all {
						checkBack(t, r)
					}
				}
			}
		}
	}
	for _, s := range some() {
		checkBack(t, modelWhole(usual(), s).request)
	}
}

func checkBack(t *testing.T, r api.Request) {
	t.Helper()
	s, err := parse.Print(r)
	if err != api.OK {
		t.Errorf("Print(%s): %d", show(r), err)
	}
	checkWhole(t, usual(), s, done(r, len(s)))
	checkWhole(t, usual(), s+"x", done(r, len(s)))
	for i := range min(len(s), 200) {
		checkWhole(t, usual(), s[:i], more(s[:i]))
	}
}
