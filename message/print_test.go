package message_test

import (
	"fmt"
	"slices"
	"strings"
	"testing"

	"turnpike/api"
	"turnpike/message"
)

var fieldA = api.Field{Name: "A", Value: "1"}

func response(status int, body string, fields ...api.Field) api.Response {
	return api.Response{Status: status, Fields: fields, Body: body}
}

func checkPrint(t *testing.T, r api.Response, how api.Manner, want string, wantErr api.Errno) {
	t.Helper()
	if s, err := message.Print(r, how); s != want || err != wantErr {
		t.Errorf("Print(%.300v, %.300v): %.300q of %d, %d; want %.300q of %d, %d", r, how, s, len(s), err, want, len(want), wantErr)
	}
}

func checkHead(t *testing.T, r api.Response, how api.Manner, want string, wantErr api.Errno) {
	t.Helper()
	if s, err := message.Head(r, how); s != want || err != wantErr {
		t.Errorf("Head(%.300v, %.300v): %.300q of %d, %d; want %.300q of %d, %d", r, how, s, len(s), err, want, len(want), wantErr)
	}
}

// checkRefused tells that neither a head nor a response is written.
func checkRefused(t *testing.T, r api.Response, how api.Manner, want api.Errno) {
	t.Helper()
	checkHead(t, r, how, "", want)
	checkPrint(t, r, how, "", want)
}

// checkAsModel holds Head and Print against the model.
func checkAsModel(t *testing.T, r api.Response, how api.Manner) {
	t.Helper()
	want, wantErr := modelPrint(r, how, true)
	checkHead(t, r, how, want, wantErr)
	want, wantErr = modelPrint(r, how, false)
	checkPrint(t, r, how, want, wantErr)
}

// 12.2 and 12.3, the examples 1 and 2.
func TestPrintExamples(t *testing.T) {
	hi := response(200, "hi", fieldA)
	checkPrint(t, hi, api.Manner{Method: "GET"}, lines("HTTP/1.1 200 OK|A: 1|Content-Length: 2||hi"), api.OK)
	checkPrint(t, hi, api.Manner{Method: "HEAD"}, lines("HTTP/1.1 200 OK|A: 1|Content-Length: 2||"), api.OK)
	checkPrint(t, hi, api.Manner{Method: "GET", Close: true}, lines("HTTP/1.1 200 OK|A: 1|Content-Length: 2|Connection: close||hi"), api.OK)
	checkPrint(t, response(204, ""), api.Manner{Method: "GET"}, lines("HTTP/1.1 204 No Content||"), api.OK)
	checkPrint(t, response(299, ""), api.Manner{Method: "GET"}, lines("HTTP/1.1 299 |Content-Length: 0||"), api.OK)
	checkPrint(t, hi, api.Manner{Method: "GET", Chunked: true, Sizes: []int{1}}, lines("HTTP/1.1 200 OK|A: 1|Transfer-Encoding: chunked||1|h|1|i|0||"), api.OK)
	checkRefused(t, response(204, "x"), api.Manner{}, api.ErrFramed)
	checkRefused(t, response(99, ""), api.Manner{}, api.ErrStatus)
	checkRefused(t, response(200, "", api.Field{Name: "Connection", Value: "close"}), api.Manner{}, api.ErrFramed)
}

// 12.2: what is laid behind the fields.
func TestLaidBehind(t *testing.T) {
	hi := response(200, "hi", fieldA)
	checkHead(t, hi, api.Manner{}, lines("HTTP/1.1 200 OK|A: 1|Content-Length: 2||"), api.OK)
	checkHead(t, hi, api.Manner{Old: true}, lines("HTTP/1.1 200 OK|A: 1|Content-Length: 2|Connection: keep-alive||"), api.OK)
	checkHead(t, hi, api.Manner{Old: true, Close: true}, lines("HTTP/1.1 200 OK|A: 1|Content-Length: 2|Connection: close||"), api.OK)
	checkHead(t, hi, api.Manner{Chunked: true, Close: true}, lines("HTTP/1.1 200 OK|A: 1|Transfer-Encoding: chunked|Connection: close||"), api.OK)
	checkHead(t, response(304, ""), api.Manner{Old: true}, lines("HTTP/1.1 304 Not Modified|Connection: keep-alive||"), api.OK)
	checkHead(t, response(204, ""), api.Manner{Close: true}, lines("HTTP/1.1 204 No Content|Connection: close||"), api.OK)
	checkHead(t, response(100, ""), api.Manner{Close: true, Old: true}, lines("HTTP/1.1 100 Continue||"), api.OK)
	upgrade := api.Field{Name: "Connection", Value: "Upgrade"}
	checkPrint(t, response(101, "", upgrade), api.Manner{Close: true}, lines("HTTP/1.1 101 Switching Protocols|Connection: Upgrade||"), api.OK)
	checkRefused(t, response(100, "", upgrade), api.Manner{}, api.ErrFramed)
	checkHead(t, api.Response{Status: 404, Reason: "Gone \tfishing "}, api.Manner{}, lines("HTTP/1.1 404 Gone \tfishing |Content-Length: 0||"), api.OK)
	checkPrint(t, response(200, "tunnel"), api.Manner{Method: "CONNECT"}, lines("HTTP/1.1 200 OK|Content-Length: 6||"), api.OK)
	checkPrint(t, response(400, "no"), api.Manner{Method: "CONNECT"}, lines("HTTP/1.1 400 Bad Request|Content-Length: 2||no"), api.OK)
	checkPrint(t, response(200, "hi"), api.Manner{Method: "head"}, lines("HTTP/1.1 200 OK|Content-Length: 2||hi"), api.OK)
	checkPrint(t, response(200, "abc"), api.Manner{Method: "GET", Chunked: true, Trailers: []api.Field{fieldA}}, lines("HTTP/1.1 200 OK|Transfer-Encoding: chunked||3|abc|0|A: 1||"), api.OK)
	long := strings.Repeat("x", 123456)
	checkPrint(t, response(200, long), api.Manner{}, lines("HTTP/1.1 200 OK|Content-Length: 123456||"+long), api.OK)
}

// 12.2: every status, in every manner, with and without a body.
func TestHeadStatuses(t *testing.T) {
	var numbers []int
	for status := -1; status <= 700; status++ {
		numbers = append(numbers, status)
	}
	for _, status := range append(numbers, -200, 1<<32+200, -1<<63, 1<<63-1) {
		for _, body := range []string{"", "x"} {
			for _, how := range []api.Manner{{}, {Method: "HEAD", Close: true}, {Method: "CONNECT", Old: true}, {Chunked: true}} {
				checkAsModel(t, response(status, body, fieldA), how)
			}
		}
	}
	for _, status := range []int{99, 100, 101, 102, 199, 200, 203, 204, 205, 299, 300, 303, 304, 305, 400, 599, 600} {
		for _, body := range []string{"", "x"} {
			for _, how := range manners() {
				checkAsModel(t, response(status, body, fieldA), how)
			}
		}
	}
}

// manners is all manners, right and wrong ones, with some sizes and trailers.
func manners() []api.Manner {
	var l []api.Manner
	for bits := range 8 {
		for _, method := range []string{"GET", "HEAD", "CONNECT"} {
			for _, sizes := range [][]int{nil, {2, 1}, {0}} {
				for _, trailers := range [][]api.Field{nil, {fieldA}, {{Name: "Host", Value: "h"}}} {
					l = append(l, api.Manner{Method: method, Close: bits&1 > 0, Old: bits&2 > 0, Chunked: bits&4 > 0, Sizes: sizes, Trailers: trailers})
				}
			}
		}
	}
	return l
}

// 12.2: all lists of some fields, right and wrong ones.
func TestHeadFields(t *testing.T) {
	some := []api.Field{fieldA, {Name: "content-LENGTH", Value: "0"}, {Name: "TRANSFER-encoding"}, {Name: "connection", Value: "x"}, {Name: "a b"}, {Name: "B", Value: " "}, {Name: "Content-Length "}}
	for l := range lists(some, 3) {
		for _, status := range []int{99, 100, 101, 200, 204} {
			for _, how := range []api.Manner{{}, {Close: true}, {Old: true}, {Chunked: true}, {Chunked: true, Old: true}, {Sizes: []int{1}}, {Trailers: []api.Field{fieldA}}} {
				checkAsModel(t, response(status, "", l...), how)
				checkAsModel(t, api.Response{Status: status, Reason: "\n", Fields: l}, how)
			}
		}
	}
}

// 12.2: each error goes ahead of those behind it.
func TestHeadErrorsInOrder(t *testing.T) {
	r := api.Response{Status: 600, Reason: "\x7f", Fields: []api.Field{{Name: ""}, {Name: "Connection"}}, Body: "x"}
	checkRefused(t, r, api.Manner{}, api.ErrStatus)
	r.Status = 599
	checkRefused(t, r, api.Manner{}, api.ErrReason)
	r.Reason = "\x80"
	checkRefused(t, r, api.Manner{}, api.ErrFramed)
	r.Fields[1].Name = "X"
	checkRefused(t, r, api.Manner{Sizes: []int{1}}, api.ErrFramed)
	checkRefused(t, r, api.Manner{}, api.ErrName)
	r.Fields[0] = api.Field{Name: "B", Value: "\r\n"}
	checkRefused(t, r, api.Manner{}, api.ErrValue)
	r.Fields = slices.Repeat(r.Fields, 50)
	checkRefused(t, r, api.Manner{}, api.ErrMany)
	r.Fields[99].Name = "Content-length"
	checkRefused(t, r, api.Manner{}, api.ErrFramed)
}

// 12.2: reasons, each byte of them, and how long they may be.
func TestReasons(t *testing.T) {
	for c := range 256 {
		for _, s := range []string{"%c", "%cx", "x%c", "x%cy"} {
			reason := strings.ReplaceAll(s, "%c", string([]byte{byte(c)}))
			checkAsModel(t, api.Response{Status: 200, Reason: reason}, api.Manner{})
		}
	}
	full := strings.Repeat("r", 256)
	checkHead(t, api.Response{Status: 204, Reason: full}, api.Manner{}, "HTTP/1.1 204 "+full+"\r\n\r\n", api.OK)
	checkRefused(t, api.Response{Status: 204, Reason: full + "r"}, api.Manner{}, api.ErrReason)
	checkRefused(t, api.Response{Status: 204, Reason: full + full}, api.Manner{}, api.ErrReason)
}

// 12.2: the limit of fields counts those that are laid behind.
func TestHeadMany(t *testing.T) {
	for n := 97; n <= 102; n++ {
		for _, status := range []int{100, 101, 200, 204} {
			for _, how := range []api.Manner{{}, {Close: true}, {Old: true}, {Chunked: true}, {Chunked: true, Close: true}} {
				checkAsModel(t, response(status, "", slices.Repeat([]api.Field{fieldA}, n)...), how)
			}
		}
	}
	checkRefused(t, response(200, "", slices.Repeat([]api.Field{fieldA}, 100)...), api.Manner{}, api.ErrMany)
	checkRefused(t, response(200, "", slices.Repeat([]api.Field{fieldA}, 99)...), api.Manner{Close: true}, api.ErrMany)
	if s, err := message.Head(response(200, "", slices.Repeat([]api.Field{fieldA}, 99)...), api.Manner{}); err != api.OK || strings.Count(s, "\r\n") != 102 {
		t.Error("99 fields and one:", len(s), err)
	}
}

// headOf is fields with which the head of a response of 204 and of no other field has so many bytes.
func headOf(length int) []api.Field {
	left := length - len("HTTP/1.1 204 No Content\r\n\r\n")
	var l []api.Field
	for left > 0 {
		n := min(left, 8000)
		if left-n < 20 && left != n {
			n -= 20
		}
		l = append(l, api.Field{Name: "A", Value: strings.Repeat("v", n-len("A: \r\n"))})
		left -= n
	}
	return l
}

// 12.3: how long a head may be; Head has no such limit.
func TestPrintLarge(t *testing.T) {
	for _, length := range []int{65535, 65536, 65537, 70000} {
		r := response(204, "", headOf(length)...)
		head, err := message.Head(r, api.Manner{})
		if err != api.OK || len(head) != length {
			t.Fatal("Head:", len(head), err)
		}
		if length > 65536 {
			checkPrint(t, r, api.Manner{}, "", api.ErrLarge)
		} else {
			checkPrint(t, r, api.Manner{}, head, api.OK)
		}
	}
	// What is wrong with chunks comes behind that, and is told to HEAD too.
	large := response(200, "x", headOf(65536)...)
	checkPrint(t, large, api.Manner{Chunked: true, Sizes: []int{0}}, "", api.ErrLarge)
	for _, method := range []string{"GET", "HEAD", "CONNECT"} {
		checkPrint(t, response(200, "x"), api.Manner{Method: method, Chunked: true, Sizes: []int{1, -1}}, "", api.ErrArg)
		checkPrint(t, response(200, "x"), api.Manner{Method: method, Chunked: true, Trailers: []api.Field{{Name: "Host"}}}, "", api.ErrTrailer)
		checkPrint(t, response(200, "x"), api.Manner{Method: method, Chunked: true, Sizes: []int{0}, Trailers: []api.Field{{Name: "Host"}}}, "", api.ErrArg)
	}
}

// 12.3: what is written to HEAD has the same head as what is written to GET.
func TestPrintToHead(t *testing.T) {
	for _, status := range []int{100, 101, 200, 204, 206, 304, 404, 500} {
		for _, how := range manners() {
			how.Method = "GET"
			get, err := message.Print(response(status, "", fieldA), how)
			how.Method = "HEAD"
			head, headErr := message.Print(response(status, "", fieldA), how)
			if err != headErr || !strings.HasPrefix(get, head) || err == api.OK && !strings.HasSuffix(head, "\r\n\r\n") {
				t.Errorf("%d, %v: GET %q, %d, HEAD %q, %d", status, how, get, err, head, headErr)
			}
		}
	}
}

// 12.11: what Print makes is what Parse takes, with whatever behind it.
func TestThereAndBack(t *testing.T) {
	bodies := []string{"", "x", "\r\n\r\n", "0\r\n\r\n", "HTTP/1.1 200 OK\r\n\r\n"}
	fields := [][]api.Field{nil, {fieldA}, {{Name: "b"}, {Name: "a", Value: "x\ty"}, {Name: "b", Value: "\xff"}}}
	made := 0
	for _, status := range []int{100, 101, 199, 200, 204, 299, 304, 400, 599} {
		for i, body := range bodies {
			r := api.Response{Status: status, Reason: []string{"", " z "}[i%2], Fields: fields[i%3], Body: body}
			for _, how := range manners() {
				s, err := message.Print(r, how)
				if err == api.OK {
					made++
					checkBack(t, r, how, s)
				}
			}
		}
	}
	if made < 500 {
		t.Error("only", made)
	}
}

func checkBack(t *testing.T, r api.Response, how api.Manner, s string) {
	t.Helper()
	head, _ := modelPrint(r, how, true)
	want := modelHead(head).reply
	if !modelBodyless(how.Method, r.Status) {
		want.Response.Body, want.Trailers = r.Body, how.Trailers
	}
	if want.Response.Status != r.Status || !slices.Equal(want.Response.Fields[:len(r.Fields)], r.Fields) {
		t.Fatal("the model reads otherwise:", want)
	}
	for _, behind := range []string{"", "x", "\r\n", "HTTP/1.1 200 OK\r\n\r\n", "\n"} {
		for _, ended := range []bool{false, true} {
			for _, most := range []int{len(r.Body), len(r.Body) + 1, 1 << 40} {
				checkParse(t, how.Method, s+behind, most, ended, outcome{reply: want, n: len(s)})
			}
		}
	}
	for n := range len(s) {
		checkParse(t, how.Method, s[:n], len(r.Body), false, wrong(api.ErrPartial, n))
	}
}

// 12.11: many trailers and long heads come back too, up to the limits.
func TestThereAndBackAtLimits(t *testing.T) {
	how := api.Manner{Method: "GET", Chunked: true, Trailers: slices.Repeat([]api.Field{fieldA}, 100)}
	r := response(200, strings.Repeat("body", 1000), headOf(65000)...)
	s, err := message.Print(r, how)
	if err != api.OK {
		t.Fatal("Print:", err)
	}
	checkBackWhole(t, s, r, how)
	how.Trailers = append(how.Trailers, fieldA)
	s, err = message.Print(r, how)
	if _, _, parseErr := message.Parse("GET", s, 4000, false); err != api.OK || parseErr != api.ErrTrailers {
		t.Error("101 trailers:", err, parseErr)
	}
	how.Trailers = append(headOf(65536+len("HTTP/1.1 204 No Content")-2), fieldA)[:9] // with their empty line 65536 - 2
	section := 2
	for _, f := range how.Trailers {
		section += len(f.Name) + len(f.Value) + 4
	}
	how.Trailers[8].Value += strings.Repeat("w", 65536-section)
	s, _ = message.Print(r, how)
	checkBackWhole(t, s, r, how)
	how.Trailers[8].Value += "w"
	s, err = message.Print(r, how)
	if _, _, parseErr := message.Parse("GET", s, 4000, false); err != api.OK || parseErr != api.ErrTrailers {
		t.Error("65537 bytes of trailers:", err, parseErr)
	}
}

func checkBackWhole(t *testing.T, s string, r api.Response, how api.Manner) {
	t.Helper()
	reply, n, err := message.Parse(how.Method, s+"more", len(r.Body), false)
	if err != api.OK || n != len(s) || reply.Response.Body != r.Body || !slices.Equal(reply.Trailers, how.Trailers) || !slices.Equal(reply.Response.Fields[:len(r.Fields)], r.Fields) {
		t.Error(fmt.Sprintf("%.300s", show(reply)), n, len(s), err)
	}
}
