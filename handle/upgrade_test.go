package handle_test

import (
	"math"
	"slices"
	"testing"

	"turnpike/api"
	"turnpike/handle"
)

const key = "dGhlIHNhbXBsZSBub25jZQ=="

// rightUpgrade is the fields of a request that is taken.
func rightUpgrade() []api.Field {
	return fields("Upgrade", "websocket", "Connection", "Upgrade", "Sec-WebSocket-Version", "13", "Sec-WebSocket-Key", key)
}

// with is a list of fields with another value in one place.
func with(l []api.Field, i int, value string) []api.Field {
	l = slices.Clone(l)
	l[i].Value = value
	return l
}

func without(l []api.Field, i int) []api.Field { return slices.Delete(slices.Clone(l), i, i+1) }

func get(l []api.Field) api.Request {
	return api.Request{Method: "GET", Target: "/s", Major: 1, Minor: 1, Fields: l}
}

func checkUpgrade(t *testing.T, r api.Request, want api.Response) {
	t.Helper()
	checkAnswer(t, api.Handler{Kind: api.HandleSocket}, api.Asked{Request: r}, nil, want)
}

func switched() api.Response {
	return api.Response{Status: 101, Fields: fields("Upgrade", "websocket", "Connection", "Upgrade", "Sec-WebSocket-Accept", "s3pPLMBiTxaQ9kYGzzhZRbK+xOo=")}
}

var (
	noRequest   = plain(400, "Bad Request")
	noUpgrade   = plain(426, "Upgrade Required", "Upgrade", "websocket", "Connection", "Upgrade")
	noVersion13 = plain(426, "Upgrade Required", "Sec-WebSocket-Version", "13")
)

// 18.2: example 5, in other words too: names and tokens without regard to case, among others, in several fields.
func TestUpgrade(t *testing.T) {
	checkUpgrade(t, get(rightUpgrade()), switched())
	checkUpgrade(t, get(fields("SEC-WEBSOCKET-KEY", key, "connection", "keep-alive, UPGRADE", "sec-websocket-version", "13", "UPGRADE", "h2c, WebSocket")), switched())
	checkUpgrade(t, get(append(fields("Connection", "close", "Upgrade", "x", "Upgrade", ""), rightUpgrade()...)), switched())
}

// 18.2: another method or version is refused first.
func TestUpgradeMethod(t *testing.T) {
	for _, method := range []string{"POST", "HEAD", "get", "", "GET "} {
		r := get(rightUpgrade())
		r.Method = method
		checkUpgrade(t, r, noRequest)
		r.Fields = nil
		checkUpgrade(t, r, noRequest)
	}
	for _, version := range [][2]int{{1, 0}, {0, 1}, {1, 2}, {2, 1}, {2, 0}, {0, 9}, {11, 1}, {1, 11}, {-1, 1}, {1, math.MinInt}, {0, 0}} {
		r := get(rightUpgrade())
		r.Major, r.Minor = version[0], version[1]
		checkUpgrade(t, r, noRequest)
	}
}

// 18.2: then whether an upgrade is asked for.
func TestNoUpgrade(t *testing.T) {
	checkUpgrade(t, get(nil), noUpgrade)
	for _, value := range []string{"", "h2c", "web-socket", "websocket/13", "websocket x", "\"websocket\"", "websocket, a b", "web socket"} {
		checkUpgrade(t, get(with(rightUpgrade(), 0, value)), noUpgrade)
	}
	for _, value := range []string{"", "close", "keep-alive", "upgraded", "up-grade", "upgrade, (x)", "upgrade\"", "websocket"} {
		checkUpgrade(t, get(with(rightUpgrade(), 1, value)), noUpgrade)
	}
	checkUpgrade(t, get(without(rightUpgrade(), 0)), noUpgrade)
	checkUpgrade(t, get(without(rightUpgrade(), 1)), noUpgrade)
	checkUpgrade(t, get(fields("Upgrade", "upgrade", "Connection", "websocket")), noUpgrade)
	checkUpgrade(t, get(without(without(rightUpgrade(), 3), 1)), noUpgrade)
}

// 18.2: then the version of what is spoken, told just once.
func TestUpgradeVersion(t *testing.T) {
	for _, value := range []string{"", "8", "12", "14", "013", "13, 13", "13,8", " 13", "13 ", "1 3", "thirteen"} {
		checkUpgrade(t, get(with(rightUpgrade(), 2, value)), noVersion13)
		checkUpgrade(t, get(without(with(rightUpgrade(), 2, value), 3)), noVersion13)
	}
	checkUpgrade(t, get(without(rightUpgrade(), 2)), noVersion13)
	checkUpgrade(t, get(append(rightUpgrade(), fields("sec-websocket-VERSION", "13")...)), noVersion13)
	checkUpgrade(t, get(append(rightUpgrade(), fields("Sec-WebSocket-Version", "8")...)), noVersion13)
}

// 18.2: then the key, of just sixteen bytes, told just once.
func TestUpgradeKey(t *testing.T) {
	for _, value := range []string{"", "Zg==", "x", key + " ", " " + key, key + "=", key[:23], key[:22], "dGhlIHNhbXBsZSBub25jZR==", "AAAAAAAAAAAAAAAAAAAAAAA=", "AAAAAAAAAAAAAAAAAAAA", key + ", " + key} {
		checkUpgrade(t, get(with(rightUpgrade(), 3, value)), noRequest)
	}
	checkUpgrade(t, get(without(rightUpgrade(), 3)), noRequest)
	checkUpgrade(t, get(append(rightUpgrade(), fields("sec-websocket-key", key)...)), noRequest)
	checkUpgrade(t, get(append(rightUpgrade(), fields("Sec-WebSocket-Key", "")...)), noRequest)
	r := handle.Answer(api.Handler{Kind: api.HandleSocket}, api.Asked{Request: get(with(rightUpgrade(), 3, "AAAAAAAAAAAAAAAAAAAAAA=="))}, nil)
	if want := modelSocket(get(with(rightUpgrade(), 3, "AAAAAAAAAAAAAAAAAAAAAA=="))); r.Status != 101 || !same(r, want) {
		t.Error(show(r))
	}
}

// 18.2: what else the request has makes no difference.
func TestUpgradeOfAll(t *testing.T) {
	r := get(append(rightUpgrade(), fields("Host", "h", "Sec-WebSocket-Protocol", "chat", "Origin", "http://x")...))
	r.Target, r.Body, r.Trailers = "*", "body", fields("T", "1")
	checkUpgrade(t, r, switched())
}

// 18.2: all choices of fields out of a row against the model.
func TestUpgradeByModel(t *testing.T) {
	row := append(rightUpgrade(), fields("connection", "close, upgrade", "upgrade", "x y", "Sec-Websocket-Key", "AAAAAAAAAAAAAAAAAAAAAA==", "sec-websocket-version", "13", "upgrade", "WebSocket, h2c")...)
	h := api.Handler{Kind: api.HandleSocket}
	statuses := map[int]int{}
	for set := range 1 << len(row) {
		var l []api.Field
		for i, f := range row {
			if set>>i&1 == 1 {
				l = append(l, f)
			}
		}
		for minor := range 2 {
			r := get(l)
			r.Minor = minor
			got := handle.Answer(h, api.Asked{Request: r}, nil)
			if !same(got, modelAnswer(h, api.Asked{Request: r}, nil)) {
				t.Fatalf("of %s: %s", show(r), show(got))
			}
			statuses[got.Status]++
		}
	}
	if statuses[101] == 0 || statuses[400] == 0 || statuses[426] == 0 {
		t.Error(statuses)
	}
}
