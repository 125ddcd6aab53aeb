package target_test

import (
	"net/url"
	"strconv"
	"strings"
	"testing"

	"turnpike/api"
	"turnpike/target"
)

func checkDecode(t *testing.T, s, want string, place int, fault api.Errno) {
	t.Helper()
	if got, at, err := target.Decode(s); got != want || at != place || err != fault {
		t.Errorf("Decode(%q): %q, %d, %d; want %q, %d, %d", s, got, at, err, want, place, fault)
	}
}

// 5.4.
func TestDecode(t *testing.T) {
	for s, want := range map[string]string{"": "", "a": "a", "%41": "A", "a%2Fb%2f": "a/b/", "%00%ff%Ff": "\x00\xff\xff", "+ #?/\x80\xff\n": "+ #?/\x80\xff\n", "%2541": "%41", "%25%34%31": "%41", "%e4%f6": "\xe4\xf6"} {
		checkDecode(t, s, want, 0, api.OK)
	}
	for s, place := range map[string]int{"%": 0, "%4": 0, "a%": 1, "%%41": 0, "%41%": 3, "%4%41": 0, "%g0": 0, "%0g": 0, "a%+1": 1, "% 1": 0, "%-1x%": 0, "%0x1": 0, "%\xff1": 0, "ab%4": 2, " %41 %": 5} {
		checkDecode(t, s, "", place, api.ErrPercent)
	}
	for s := range texts([]string{"%", "4", "aF", "g", " ", "\xff"}, 6) {
		want, err := url.PathUnescape(s)
		if err == nil {
			checkDecode(t, s, want, 0, api.OK)
			continue
		}
		rest := someTriple.ReplaceAllString(s, "...")
		checkDecode(t, s, "", strings.Index(rest, "%"), api.ErrPercent)
	}
}

// 5.4: the digits behind a %, all pairs of bytes.
func TestDecodeDigits(t *testing.T) {
	for i := range 256 * 256 {
		s := "x%" + string([]byte{byte(i / 256), byte(i)})
		if n, err := strconv.ParseUint(s[2:], 16, 8); err != nil {
			checkDecode(t, s, "", 1, api.ErrPercent)
		} else {
			checkDecode(t, s, "x"+string([]byte{byte(n)}), 0, api.OK)
		}
	}
}

// 5.4; and 5.8: a text comes out of its percent triples again.
func TestEncode(t *testing.T) {
	const hex = "0123456789ABCDEF"
	all, wanted := "", ""
	for c := range 256 {
		b := string([]byte{byte(c)})
		want := "%" + hex[c/16:c/16+1] + hex[c%16:c%16+1]
		if strings.Contains(unreserved, b) {
			want = b
		}
		if got := target.Encode(b); got != want {
			t.Errorf("Encode(%q): %q; want %q", b, got, want)
		}
		all, wanted = all+b, wanted+want
	}
	if target.Encode("") != "" || target.Encode(all) != wanted || target.Encode("a/\xc3\xa4 %41") != "a%2F%C3%A4%20%2541" {
		t.Error("Encode of more bytes")
	}
	for s := range texts([]string{"%", "4", "a", "\xc3", "\xa4", "/", "\x00"}, 5) {
		checkDecode(t, target.Encode(s), s, 0, api.OK)
	}
	checkDecode(t, strings.Repeat(wanted, 1000), strings.Repeat(all, 1000), 0, api.OK)
}
