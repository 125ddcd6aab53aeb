package octet_test

import (
	"regexp"
	"strings"
	"testing"

	"turnpike/api"
	"turnpike/octet"
)

// quotedFront is a quoted text at the front, over the bytes that quotedPieces has; escapedPart is a part with a backslash.
var (
	quotedFront = regexp.MustCompile(`^"(?:\\[^\x00]|[^"\\\x00])*"`)
	escapedPart = regexp.MustCompile(`\\(.)`)
)

var quotedPieces = []string{`"`, `\`, "a", ",", "\t", "\x00"}

// 1.4: each byte.
func TestQuote(t *testing.T) {
	for c := 0; c < 256; c++ {
		s := string([]byte{byte(c)})
		want, wantErr := `"`+s+`"`, api.OK
		switch {
		case !isFieldByte(c):
			want, wantErr = "", api.ErrQuoted
		case c == '"' || c == '\\':
			want = `"\` + s + `"`
		}
		if got, err := octet.Quote(s); got != want || err != wantErr {
			t.Errorf("Quote(%q): %q, %d", s, got, err)
		}
	}
	for s, want := range map[string]string{"": `""`, `a"b\`: `"a\"b\\"`, "x y\t": "\"x y\t\"", `\\`: `"\\\\"`, "\xff": "\"\xff\""} {
		if got, err := octet.Quote(s); got != want || err != api.OK {
			t.Errorf("Quote(%q): %q, %d", s, got, err)
		}
	}
	for _, s := range []string{"\n", "ab\x00", "\x7fab", "a\rb"} {
		if got, err := octet.Quote(s); got != "" || err != api.ErrQuoted {
			t.Errorf("Quote(%q): %q, %d", s, got, err)
		}
	}
}

// 1.5
func TestUnquote(t *testing.T) {
	for _, x := range []struct {
		s, says string
		n       int
	}{
		{`"a\"b\\"x`, `a"b\`, 8},
		{`""`, "", 2},
		{`"""`, "", 2},
		{`"" "b"`, "", 2},
		{`"\a\b"`, "ab", 6},
		{"\"\\\t\\ \"", "\t ", 6},
		{"\"\\\xff\xfe\"", "\xff\xfe", 5},
		{`"a,b;c=d"` + "\n\x00", "a,b;c=d", 9},
		{`"\\"\"`, `\`, 4},
		{`"a"b"`, "a", 3},
	} {
		if says, n, err := octet.Unquote(x.s); says != x.says || n != x.n || err != api.OK {
			t.Errorf("Unquote(%q): %q, %d, %d", x.s, says, n, err)
		}
	}
	for _, s := range []string{"", "a", ` "a"`, `"`, `"a`, `"\"`, `"a\`, `"\\\"`, "\"\n\"", "\"\\\n\"", "\"a\x7f\"", "\"\\\x7f\"", "\"\\\x00\"", `'a'`, `a"b"`} {
		if says, n, err := octet.Unquote(s); says != "" || n != 0 || err != api.ErrQuoted {
			t.Errorf("Unquote(%q): %q, %d, %d", s, says, n, err)
		}
	}
}

// 1.5: each byte, as a part and behind a backslash.
func TestUnquoteBytes(t *testing.T) {
	for c := 0; c < 256; c++ {
		b := string([]byte{byte(c)})
		says, n, err := octet.Unquote(`"\` + b + `"`)
		if isFieldByte(c) != (err == api.OK) || err == api.OK && (says != b || n != 4) || err != api.OK && (says != "" || n != 0) {
			t.Errorf("Unquote with a backslash and the byte %d: %q, %d, %d", c, says, n, err)
		}
		if c == '"' || c == '\\' {
			continue
		}
		says, n, err = octet.Unquote(`"` + b + `"`)
		if isFieldByte(c) != (err == api.OK) || err == api.OK && (says != b || n != 3) || err != api.OK && (says != "" || n != 0) {
			t.Errorf("Unquote with the byte %d: %q, %d, %d", c, says, n, err)
		}
	}
}

// 1.5: all short texts, held against a pattern.
func TestUnquoteAgainstPattern(t *testing.T) {
	for s := range texts(quotedPieces, 6) {
		says, n, err := octet.Unquote(s)
		front := quotedFront.FindString(s)
		if front == "" {
			if says != "" || n != 0 || err != api.ErrQuoted {
				t.Fatalf("Unquote(%q): %q, %d, %d", s, says, n, err)
			}
			continue
		}
		want := escapedPart.ReplaceAllString(front[1:len(front)-1], "$1")
		if says != want || n != len(front) || err != api.OK {
			t.Fatalf("Unquote(%q): %q, %d, %d; want %q, %d", s, says, n, err, want, len(front))
		}
	}
}

// 1.10: Unquote of Quote(s) is s, and the length of all of it.
func TestUnquoteOfQuote(t *testing.T) {
	all := ""
	for c := 0; c < 256; c++ {
		if isFieldByte(c) {
			all += string([]byte{byte(c)})
		}
	}
	checkQuoted(t, all)
	checkQuoted(t, strings.Repeat(`\"`, 1000))
	for s := range texts([]string{`"`, `\`, "a", " ", "\xff"}, 5) {
		checkQuoted(t, s)
	}
}

func checkQuoted(t *testing.T, s string) {
	t.Helper()
	q, err := octet.Quote(s)
	if err != api.OK {
		t.Fatalf("Quote(%q): %d", s, err)
	}
	if says, n, err := octet.Unquote(q); says != s || n != len(q) || err != api.OK {
		t.Fatalf("Unquote(%q): %q, %d, %d", q, says, n, err)
	}
}
