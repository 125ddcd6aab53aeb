package handle_test

import (
	"fmt"
	"math"
	"testing"

	"turnpike/api"
	"turnpike/handle"
	"turnpike/message"
)

func checkPlain(t *testing.T, status int, want api.Response, l ...api.Field) {
	t.Helper()
	if r := handle.Plain(status, l...); !same(r, want) {
		t.Errorf("Plain(%d, %s): %s, wanted %s", status, show(l), show(r), show(want))
	}
}

// 18.3: a status in words, also one that may have no body.
func TestPlain(t *testing.T) {
	checkPlain(t, 404, plain(404, "Not Found"))
	checkPlain(t, 200, plain(200, "OK"))
	checkPlain(t, 204, plain(204, "No Content"))
	checkPlain(t, 304, plain(304, "Not Modified"))
	checkPlain(t, 100, plain(100, "Continue"))
	checkPlain(t, 413, plain(413, "Content Too Large"))
}

// 18.3: a status that has no reason is told by its digits, whatever it is.
func TestPlainWithoutReason(t *testing.T) {
	checkPlain(t, 299, plain(299, "Status 299"))
	checkPlain(t, 418, plain(418, "Status 418"))
	checkPlain(t, 0, plain(0, "Status 0"))
	checkPlain(t, -404, plain(-404, "Status -404"))
	checkPlain(t, math.MaxInt, plain(math.MaxInt, "Status 9223372036854775807"))
	checkPlain(t, math.MinInt, plain(math.MinInt, "Status -9223372036854775808"))
	for status := -5; status < 1005; status++ {
		reason := message.Reason(status)
		if reason == "" {
			reason = fmt.Sprint("Status ", status)
		}
		checkPlain(t, status, plain(status, reason))
	}
}

// 18.3: further fields stand behind the first one as they are, in their order, right or not.
func TestPlainWithFields(t *testing.T) {
	checkPlain(t, 404, plain(404, "Not Found"), []api.Field{}...)
	checkPlain(t, 404, plain(404, "Not Found", "A", "1"), fields("A", "1")...)
	checkPlain(t, 200, plain(200, "OK", "b", "2", "A", "1", "b", "3"), fields("b", "2", "A", "1", "b", "3")...)
	checkPlain(t, 200, plain(200, "OK", "Content-Type", "x", "", "\n", "Content-Length", "7"), fields("Content-Type", "x", "", "\n", "Content-Length", "7")...)
	var many []string
	for i := range 300 {
		many = append(many, fmt.Sprint("N", i), fmt.Sprint(i))
	}
	checkPlain(t, 500, plain(500, "Internal Server Error", many...), fields(many...)...)
}

// 18.2: example 1, and a text of any bytes, which is answered to whatever is asked.
func TestText(t *testing.T) {
	h := api.Handler{Kind: api.HandleText, Status: 200, Media: "text/html", Text: "hi"}
	checkAnswer(t, h, api.Asked{}, nil, api.Response{Status: 200, Fields: fields("Content-Type", "text/html"), Body: "hi"})
	h = api.Handler{Kind: api.HandleText, Status: 599, Media: "x;y", Text: "{id}\x00\xff\r\n"}
	asked := api.Asked{Request: api.Request{Method: "HEAD", Body: "b"}, Params: params("id", "7"), Now: 9}
	checkAnswer(t, h, asked, nil, api.Response{Status: 599, Fields: fields("Content-Type", "x;y"), Body: "{id}\x00\xff\r\n"})
	h = api.Handler{Kind: api.HandleText, Status: 404, Media: "a/b"}
	checkAnswer(t, h, api.Asked{}, nil, api.Response{Status: 404, Fields: fields("Content-Type", "a/b")})
}

// 18.2: example 1, and the two statuses without fields and body.
func TestStatus(t *testing.T) {
	checkAnswer(t, api.Handler{Kind: api.HandleStatus, Status: 404}, api.Asked{}, nil, plain(404, "Not Found"))
	for status := 200; status < 600; status++ {
		want := modelPlain(status)
		if status == 204 || status == 304 {
			want = api.Response{Status: status}
		}
		checkAnswer(t, api.Handler{Kind: api.HandleStatus, Status: status}, api.Asked{}, nil, want)
	}
}
