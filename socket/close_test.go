package socket_test

import (
	"math"
	"strings"
	"testing"

	"turnpike/api"
	"turnpike/socket"
)

func checkIsText(t *testing.T, s string, want bool) {
	t.Helper()
	if got := socket.IsText(s); got != want {
		t.Errorf("IsText(%.60q): %v; want %v", s, got, want)
	}
}

func checkPrintClose(t *testing.T, code int, reason, want string, wantErr api.Errno) {
	t.Helper()
	if s, err := socket.PrintClose(code, reason); s != want || err != wantErr {
		t.Errorf("PrintClose(%d, %.140q): %.140q, %d; want %.140q, %d", code, reason, s, err, want, wantErr)
	}
}

func checkParseClose(t *testing.T, body string, want int, wantReason string, wantErr api.Errno) {
	t.Helper()
	if code, reason, err := socket.ParseClose(body); code != want || reason != wantReason || err != wantErr {
		t.Errorf("ParseClose(%.140q): %d, %.140q, %d; want %d, %.140q, %d", body, code, reason, err, want, wantReason, wantErr)
	}
}

// 22.3: characters by UTF-8, each in its shortest form.
func TestIsText(t *testing.T) {
	for _, s := range []string{
		"", "Hi", "\x00", "\x7f", "\xc2\x80", "\xdf\xbf", "\xe0\xa0\x80", "\xe2\x82\xac", "\xed\x9f\xbf", "\xee\x80\x80", "\xef\xbf\xbd", "\xef\xbf\xbf", "\xf0\x90\x80\x80", "\xf4\x8f\xbf\xbf", "a\xc3\xa4b\xf0\x9f\x98\x80c",
	} {
		checkIsText(t, s, true)
	}
	for _, s := range []string{
		"\x80", "\xbf", "\xc0\x80", "\xc1\xbf", "\xc3", "\xc3(", "\xc3\xc3", "\xe0\x80\x80", "\xe0\x9f\xbf", "\xe2\x82", "\xe2\x82(", "\xe2(\xac", "\xed\xa0\x80", "\xed\xbf\xbf", "\xf0\x8f\xbf\xbf", "\xf0\x9f\x98", "\xf4\x90\x80\x80", "\xf5\x80\x80\x80", "\xf8\x88\x80\x80\x80", "\xfe", "\xff", "abc\x80", "\xc2\x80\x80",
	} {
		checkIsText(t, s, false)
		checkIsText(t, "ab"+s+"c", false)
	}
}

// 22.3: each character, all short texts of edges, and characters cut off.
func TestIsTextModel(t *testing.T) {
	for r := range 1114112 {
		if r < 55296 || r > 57343 {
			if s := string(rune(r)); !socket.IsText(s) || socket.IsText(s[:len(s)-1]) != (len(s) == 1) {
				t.Fatalf("IsText of %q", s)
			}
		}
	}
	edges := "a\x7f\x80\x8f\x90\x9f\xa0\xbf\xc0\xc1\xc2\xdf\xe0\xe1\xec\xed\xee\xef\xf0\xf1\xf3\xf4\xf5\xff"
	var all func(s string, n int)
	all = func(s string, n int) {
		checkIsText(t, s, modelIsText(s))
		if n > 0 {
			for i := range len(edges) {
				all(s+edges[i:i+1], n-1)
			}
		}
	}
	all("", 4)
	for a := range 256 {
		for b := range 256 {
			s := string([]byte{byte(a), byte(b)})
			checkIsText(t, s, modelIsText(s))
		}
	}
}

// 22.3: close bodies printed.
func TestPrintClose(t *testing.T) {
	checkPrintClose(t, 1000, "bye", "\x03\xe8bye", api.OK)
	checkPrintClose(t, 1000, "", "\x03\xe8", api.OK)
	checkPrintClose(t, 4999, "\xe2\x82\xac", "\x13\x87\xe2\x82\xac", api.OK)
	checkPrintClose(t, 0, "", "", api.OK)
	checkPrintClose(t, 0, "a", "", api.ErrClose)
	checkPrintClose(t, 0, "\xff", "", api.ErrClose)
	checkPrintClose(t, 1005, "", "", api.ErrClose)
	checkPrintClose(t, 1005, strings.Repeat("r", 124), "", api.ErrClose)
	checkPrintClose(t, 1000, "\xff", "", api.ErrText)
	checkPrintClose(t, 1000, "a\xc3", "", api.ErrText)
	checkPrintClose(t, 1000, strings.Repeat("r", 123), "\x03\xe8"+strings.Repeat("r", 123), api.OK)
	checkPrintClose(t, 1000, strings.Repeat("r", 124), "", api.ErrText)
	checkPrintClose(t, 1000, strings.Repeat("\xff", 124), "", api.ErrText)
	checkPrintClose(t, 1000, strings.Repeat("r", 1<<16), "", api.ErrText)
}

// 22.3: each number, as a code and in a body.
func TestCodes(t *testing.T) {
	for n := -3; n < 1<<16+5000; n++ {
		body := string([]byte{byte(n >> 8), byte(n)})
		in := n >= 0 && n < 1<<16
		switch {
		case n == 0:
			checkParseClose(t, body, 0, "", api.ErrClose)
		case modelIsCode(n):
			checkPrintClose(t, n, "r", body+"r", api.OK)
			checkParseClose(t, body, n, "", api.OK)
			checkParseClose(t, body+"r", n, "r", api.OK)
			checkParseClose(t, body+"\xff", 0, "", api.ErrText)
		default:
			checkPrintClose(t, n, "", "", api.ErrClose)
			checkPrintClose(t, n, "\xff", "", api.ErrClose)
			if in {
				checkParseClose(t, body, 0, "", api.ErrClose)
				checkParseClose(t, body+"\xff", 0, "", api.ErrClose)
			}
		}
	}
	for _, n := range []int{math.MinInt, math.MaxInt, 1<<16 + 1000, 1<<32 + 1000} {
		checkPrintClose(t, n, "", "", api.ErrClose)
	}
}

// 22.3: close bodies read.
func TestParseClose(t *testing.T) {
	checkParseClose(t, "", 1005, "", api.OK)
	checkParseClose(t, "\x03\xe8bye", 1000, "bye", api.OK)
	checkParseClose(t, "\x03\xe8", 1000, "", api.OK)
	checkParseClose(t, "\x03", 0, "", api.ErrClose)
	checkParseClose(t, "\x03\xed", 0, "", api.ErrClose)
	checkParseClose(t, "\x03\xed\xff", 0, "", api.ErrClose)
	checkParseClose(t, "\x03\xe8\xff", 0, "", api.ErrText)
	checkParseClose(t, "\x03\xe8"+strings.Repeat("r", 123), 1000, strings.Repeat("r", 123), api.OK)
	checkParseClose(t, "\x03\xe8"+strings.Repeat("r", 124), 0, "", api.ErrClose)
	checkParseClose(t, "\x03\xe8"+strings.Repeat("\xff", 124), 0, "", api.ErrClose)
	checkParseClose(t, "\x03\xe8"+strings.Repeat("\xff", 123), 0, "", api.ErrText)
	for a := range 256 {
		checkParseClose(t, string([]byte{byte(a)}), 0, "", api.ErrClose)
	}
}

// T8: what PrintClose says is read back.
func TestCloseThereAndBack(t *testing.T) {
	for _, reason := range []string{"", "a", "bye", "\x00", "\xe2\x82\xac", strings.Repeat("\xc3\xa4", 61), strings.Repeat("x", 123)} {
		for _, code := range []int{1000, 1003, 1007, 1011, 3000, 4999} {
			s, err := socket.PrintClose(code, reason)
			if err != api.OK {
				t.Errorf("PrintClose(%d, %q): %d", code, reason, err)
			}
			checkParseClose(t, s, code, reason, api.OK)
		}
	}
}
