package chain_test

import (
	"fmt"
	"math"
	"testing"

	"turnpike/api"
	"turnpike/chain"
	"turnpike/message"
)

func checkPlain(t *testing.T, status int, l []api.Field, want api.Response) {
	t.Helper()
	if r := chain.Plain(status, l); !same(r, want) {
		t.Errorf("Plain(%d, %s): %s, wanted %s", status, show(l), show(r), show(want))
	}
}

// 19.3: a status in words, also one that may have no body.
func TestPlain(t *testing.T) {
	checkPlain(t, 404, nil, plain(404, "Not Found"))
	checkPlain(t, 200, []api.Field{}, plain(200, "OK"))
	checkPlain(t, 204, nil, plain(204, "No Content"))
	checkPlain(t, 304, nil, plain(304, "Not Modified"))
	checkPlain(t, 101, nil, plain(101, "Switching Protocols"))
}

// 19.3: a status that has no reason is told by its digits, whatever it is.
func TestPlainWithoutReason(t *testing.T) {
	checkPlain(t, 299, nil, plain(299, "Status 299"))
	checkPlain(t, 418, fields("A", "1"), plain(418, "Status 418", "A", "1"))
	checkPlain(t, 0, nil, plain(0, "Status 0"))
	checkPlain(t, -404, nil, plain(-404, "Status -404"))
	checkPlain(t, math.MaxInt, nil, plain(math.MaxInt, "Status 9223372036854775807"))
	checkPlain(t, math.MinInt, nil, plain(math.MinInt, "Status -9223372036854775808"))
	for status := -5; status < 1005; status++ {
		reason := message.Reason(status)
		if reason == "" {
			reason = fmt.Sprint("Status ", status)
		}
		checkPlain(t, status, nil, plain(status, reason))
	}
}

// 19.3: further fields stand behind the first one as they are, in their order, right or not.
func TestPlainWithFields(t *testing.T) {
	checkPlain(t, 404, fields("A", "1"), plain(404, "Not Found", "A", "1"))
	checkPlain(t, 200, fields("b", "2", "A", "1", "b", "3"), plain(200, "OK", "b", "2", "A", "1", "b", "3"))
	checkPlain(t, 200, fields("Content-Type", "x", "", "\n", "Content-Length", "7"), plain(200, "OK", "Content-Type", "x", "", "\n", "Content-Length", "7"))
	var many []string
	for i := range 300 {
		many = append(many, fmt.Sprint("N", i), fmt.Sprint(i))
	}
	checkPlain(t, 500, fields(many...), plain(500, "Internal Server Error", many...))
}
