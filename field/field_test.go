package field_test

import (
	"strings"
	"testing"

	"turnpike/api"
	"turnpike/field"
)

// of is a list of fields: names and values by turns.
func of(pairs ...string) []api.Field {
	var l []api.Field
	for i := 0; i+1 < len(pairs); i += 2 {
		l = append(l, api.Field{Name: pairs[i], Value: pairs[i+1]})
	}
	return l
}

// many is so many fields of one name.
func many(n int, name string) []api.Field {
	l := make([]api.Field, n)
	for i := range l {
		l[i] = api.Field{Name: name, Value: "v"}
	}
	return l
}

// 6.1
func TestIsName(t *testing.T) {
	for _, s := range []string{"a", "A-b", "Host", "!#$%&'*+-.^_`|~09azAZ", strings.Repeat("n", 128)} {
		if !field.IsName(s) {
			t.Errorf("IsName(%q): false", s)
		}
	}
	for _, s := range []string{"", " a", "a ", "a b", "a:", "a\r", "\x00", "\xc3\xa4", strings.Repeat("n", 129), strings.Repeat("n", 127) + " "} {
		if field.IsName(s) {
			t.Errorf("IsName(%q): true", s)
		}
	}
}

// 6.1
func TestIsValue(t *testing.T) {
	for _, s := range []string{"", "a", "a b", "a\tb", "\xff", "a\x80", "\"", strings.Repeat("v", 8192), "a" + strings.Repeat(" ", 8190) + "b"} {
		if !field.IsValue(s) {
			t.Errorf("IsValue(%q): false", s)
		}
	}
	for _, s := range []string{" ", "\t", " a", "\ta", "a ", "a\t", "a\nb", "a\r", "\x00", "\x7f", strings.Repeat("v", 8193), strings.Repeat(" ", 8193)} {
		if field.IsValue(s) {
			t.Errorf("IsValue(%q): true", s)
		}
	}
}

// 6.1: each byte, alone and within.
func TestEachByteOfNamesAndValues(t *testing.T) {
	for c := range 256 {
		b := string([]byte{byte(c)})
		name := wholeToken.MatchString(runes(b))
		value := c == 9 || c >= 32 && c != 127
		blank := c == 9 || c == 32
		for _, s := range []string{b, "a" + b, b + "a", "a" + b + "a"} {
			if field.IsName(s) != name {
				t.Errorf("IsName(%q): %v", s, !name)
			}
			within := s == "a"+b+"a"
			if want := value && (within || !blank); field.IsValue(s) != want {
				t.Errorf("IsValue(%q): %v", s, !want)
			}
		}
	}
}

// 6.1, the example 1.
func TestCanon(t *testing.T) {
	for _, x := range [][2]string{
		{"x-forWARDED-for", "X-Forwarded-For"},
		{"a b-c", "A b-C"},
		{"", ""},
		{"HOST", "Host"},
		{"te", "Te"},
		{"-a--b-", "-A--B-"},
		{"1a-2b", "1a-2b"},
		{"a_b-C", "A_b-C"},
		{"\xc3\xa4-\xe0", "\xc3\xa4-\xe0"},
		{" a", " a"},
		{"ETag", "Etag"},
	} {
		if got := field.Canon(x[0]); got != x[1] {
			t.Errorf("Canon(%q): %q", x[0], got)
		}
	}
}

// 6.1: each byte at the front, behind a letter and behind a -.
func TestCanonEachByte(t *testing.T) {
	const smalls, capitals = "abcdefghijklmnopqrstuvwxyz", "ABCDEFGHIJKLMNOPQRSTUVWXYZ"
	for c := range 256 {
		b := string([]byte{byte(c)})
		capital, little := b, b
		if i := strings.Index(smalls, b); i >= 0 {
			capital = capitals[i : i+1]
		}
		if i := strings.Index(capitals, b); i >= 0 {
			little = smalls[i : i+1]
		}
		if got, want := field.Canon(b+"0"+b+"-"+b), capital+"0"+little+"-"+capital; got != want {
			t.Errorf("Canon of the byte %d: %q; want %q", c, got, want)
		}
	}
}
