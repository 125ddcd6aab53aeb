package tag_test

import (
	"hash/fnv"
	"strconv"
	"strings"
	"testing"

	"turnpike/api"
	"turnpike/tag"
)

// 8.3, 8.6.
func TestStrongAndAlike(t *testing.T) {
	for _, c := range []struct {
		a, b          api.Tag
		strong, alike bool
	}{
		{strong("1"), strong("1"), true, true},
		{weak("1"), weak("1"), false, true},
		{weak("1"), strong("1"), false, true},
		{strong("1"), strong("2"), false, false},
		{weak("1"), weak("2"), false, false},
		{weak("1"), strong("2"), false, false},
		{strong(""), strong(""), true, true},
		{strong(""), weak(""), false, true},
		{strong("a"), strong("A"), false, false},
		{strong("a"), strong(""), false, false},
		{strong("a"), strong("ab"), false, false},
		{strong("no \"tag"), strong("no \"tag"), true, true},
		{api.Tag{}, api.Tag{}, true, true},
	} {
		if tag.Strong(c.a, c.b) != c.strong || tag.Strong(c.b, c.a) != c.strong {
			t.Errorf("Strong(%v, %v) is not %t", c.a, c.b, c.strong)
		}
		if tag.Alike(c.a, c.b) != c.alike || tag.Alike(c.b, c.a) != c.alike {
			t.Errorf("Alike(%v, %v) is not %t", c.a, c.b, c.alike)
		}
	}
}

// 8.6: Strong tags are Alike, and a tag that is not weak is Strong with itself.
func TestStrongIsAlike(t *testing.T) {
	some := []api.Tag{strong(""), weak(""), strong("a"), weak("a"), strong("b"), weak("b"), strong("W/a"), weak("W/a")}
	for _, a := range some {
		for _, b := range some {
			if tag.Strong(a, b) && !tag.Alike(a, b) {
				t.Error("Strong and not Alike:", a, b)
			}
		}
		if tag.Strong(a, a) == a.Weak || !tag.Alike(a, a) {
			t.Error("with itself:", a)
		}
	}
}

// 8.3, the example 3.
func TestMake(t *testing.T) {
	if got := tag.Make("", false); got != strong("cbf29ce484222325-0") {
		t.Error("Make of nothing:", got)
	}
	if got := tag.Make("a", true); got != weak("af63dc4c8601ec8c-1") {
		t.Error("Make of a:", got)
	}
}

// 8.3, 8.6: against the library's sum; the length stands in the text, and what is made can be printed.
func TestMakeAgainstTheLibrary(t *testing.T) {
	for _, piece := range []string{"a", "\x00", "\xff", "hello, ", "\r\n"} {
		for _, n := range []int{0, 1, 2, 9, 10, 11, 99, 100, 1000, 65537} {
			body := strings.Repeat(piece, n)
			h := fnv.New64a()
			h.Write([]byte(body))
			digits := strconv.FormatUint(h.Sum64(), 16)
			want := strings.Repeat("0", 16-len(digits)) + digits + "-" + strconv.Itoa(len(body))
			for _, is := range []bool{false, true} {
				got := tag.Make(body, is)
				if got != (api.Tag{Weak: is, Text: want}) {
					t.Fatalf("Make of %d times %q: %v; want %s", n, piece, got, want)
				}
				if _, err := tag.Print(got); err != api.OK {
					t.Fatalf("Print(%v): %d", got, err)
				}
			}
		}
	}
}

// 8.3: a sum whose highest digits are 0 has all sixteen of them.
func TestMakeKeepsZeros(t *testing.T) {
	if got := tag.Make("body 51800", false); got != strong("00cbaddf7ed3f2a7-10") {
		t.Error("Make of a body with a small sum:", got)
	}
}
