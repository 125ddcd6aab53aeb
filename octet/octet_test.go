package octet_test

import (
	"slices"
	"strings"
	"testing"

	"turnpike/octet"
)

const (
	letters = "ABCDEFGHIJKLMNOPQRSTUVWXYZabcdefghijklmnopqrstuvwxyz"
	digits  = "0123456789"
	signs   = "!#$%&'*+-.^_`|~" + letters + digits
)

// isFieldByte says the class in the words of the chapter, apart from the program's own.
func isFieldByte(c int) bool { return c == 9 || c == 32 || c >= 33 && c <= 255 && c != 127 }

// texts goes over all texts of at most so many pieces, each of them out of the list.
func texts(pieces []string, most int) func(yield func(string) bool) {
	return func(yield func(string) bool) {
		level := []string{""}
		for n := 0; ; n++ {
			for _, s := range level {
				if !yield(s) {
					return
				}
			}
			if n == most {
				return
			}
			var next []string
			for _, s := range level {
				for _, p := range pieces {
					next = append(next, s+p)
				}
			}
			level = next
		}
	}
}

// 1.1: each byte, alone and among signs of tokens.
func TestIsToken(t *testing.T) {
	for c := 0; c < 256; c++ {
		b := string([]byte{byte(c)})
		want := strings.Contains(signs, b)
		for _, s := range []string{b, "a" + b, b + "z", "a" + b + "z"} {
			if octet.IsToken(s) != want {
				t.Errorf("IsToken(%q): not %v", s, want)
			}
		}
	}
	for s, want := range map[string]bool{"a-b": true, signs: true, "": false, "a b": false, "a/b": false, "a,": false, "\xc3\xa4": false} {
		if octet.IsToken(s) != want {
			t.Errorf("IsToken(%q): not %v", s, want)
		}
	}
}

// 1.1: each byte, alone and among bytes of fields.
func TestIsField(t *testing.T) {
	if !octet.IsField("") {
		t.Error("IsField of the empty text")
	}
	for c := 0; c < 256; c++ {
		b := string([]byte{byte(c)})
		for _, s := range []string{b, "a" + b, b + "z", "a" + b + "z"} {
			if octet.IsField(s) != isFieldByte(c) {
				t.Errorf("IsField(%q): not %v", s, isFieldByte(c))
			}
		}
	}
}

// 1.1: only A to Z are turned; bytes beyond 127 have no case, and places stay.
func TestLower(t *testing.T) {
	for c := 0; c < 256; c++ {
		want := []byte{byte(c)}
		if c >= 65 && c <= 90 {
			want[0] += 32
		}
		if got := octet.Lower(string([]byte{byte(c)})); got != string(want) {
			t.Errorf("Lower of the byte %d: %q", c, got)
		}
	}
	for s, want := range map[string]string{"": "", "AbC-9Z": "abc-9z", "\xc0\xff": "\xc0\xff", "K\u212a\u0130": "k\u212a\u0130"} {
		if got := octet.Lower(s); got != want {
			t.Errorf("Lower(%q): %q", s, got)
		}
	}
}

// 1.1: Same is by Lower, and by nothing else.
func TestSame(t *testing.T) {
	for a := 0; a < 256; a++ {
		for b := 0; b < 256; b++ {
			x, y := "h"+string([]byte{byte(a)})+"T", "H"+string([]byte{byte(b)})+"t"
			if octet.Same(x, y) != (octet.Lower(x) == octet.Lower(y)) {
				t.Errorf("Same(%q, %q)", x, y)
			}
		}
	}
	for _, x := range []struct {
		a, b string
		want bool
	}{
		{"HoST", "hOst", true}, {"\xc0", "\xe0", false}, {"", "", true}, {"", "a", false}, {"a", "", false},
		{"ab", "a", false}, {"a", "AB", false}, {"k", "\u212a", false}, {"@", "`", false}, {"[", "{", false},
	} {
		if octet.Same(x.a, x.b) != x.want {
			t.Errorf("Same(%q, %q): not %v", x.a, x.b, x.want)
		}
	}
}

// 1.1: spaces and tabs go at both ends, and nothing else does.
func TestTrim(t *testing.T) {
	for s, want := range map[string]string{
		"": "", " ": "", "\t \t": "", "a": "a", "\t a b  ": "a b", " a": "a", "a\t": "a", "a \t b": "a \t b",
		"\na\r": "\na\r", "\va\f": "\va\f", "\u00a0a\u00a0": "\u00a0a\u00a0", " \x00 ": "\x00", " \xff\t": "\xff",
	} {
		if got := octet.Trim(s); got != want {
			t.Errorf("Trim(%q): %q", s, got)
		}
	}
}

// R4: lists that are handed in stay as they are, with the room behind their ends; lists that are handed out are new.
func TestJoinKeepsItsArgument(t *testing.T) {
	store := []string{"a", "b", "c", "d"}
	octet.Join(store[:2])
	if !slices.Equal(store, []string{"a", "b", "c", "d"}) {
		t.Error("Join has changed its argument:", store)
	}
}

func TestListsAreNew(t *testing.T) {
	for name, call := range map[string]func(string) []string{
		"List":   func(s string) []string { l, _ := octet.List(s); return l },
		"Tokens": func(s string) []string { l, _ := octet.Tokens(s); return l },
	} {
		first, second := call("a, b, c"), call("a, b, c")
		spoilt := first[:cap(first)]
		for i := range spoilt {
			spoilt[i] = "x"
		}
		if !slices.Equal(second, []string{"a", "b", "c"}) || !slices.Equal(call("a, b, c"), second) {
			t.Error(name, "shares its answers")
		}
	}
}
