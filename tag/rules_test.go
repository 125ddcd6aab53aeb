package tag_test

import (
	"slices"
	"strings"
	"testing"

	"turnpike/api"
	"turnpike/tag"
)

// R4: what is written into an answer, its spare room too, shows in no other one.
func TestListsAreNew(t *testing.T) {
	for n := range 20 {
		s := `"a"` + strings.Repeat(`, W/"b"`, n)
		l, _, _, _ := tag.List(s)
		other, _, _, _ := tag.List(s)
		want := slices.Clone(other)
		l = l[:cap(l)]
		for i := range l {
			l[i] = weak("soiled")
		}
		again, _, _, _ := tag.List(s)
		if !slices.Equal(other, want) || !slices.Equal(again, want) || len(want) != n+1 {
			t.Fatal("lists share memory:", other, again)
		}
	}
}

// R4: what is handed in is left as it is, the spare room behind it too.
func TestArgumentsStay(t *testing.T) {
	whole := fields("If-Match", `"a"`, "IF-none-match", ` "b" `, "If-Range", ` "a" `, "If-Modified-Since", dateOf, "If-Match", `"b"`, "spare", "room")
	l := slices.Clone(whole)
	tag.Decide("GET", l[:4], there(), moment)
	tag.Ranged(l[:4], there(), moment)
	if !slices.Equal(l, whole) {
		t.Error("fields were changed:", l)
	}
	// What lies behind the end has no part in it.
	if got := tag.Decide("GET", l[:1:2], weakly(), moment); got != api.DecideFailed {
		t.Error("Decide:", got)
	}
	if !tag.Ranged(l[:2], there(), moment) {
		t.Error("Ranged looks behind the end")
	}
}

// R5: what is answered does not hang on what was asked ahead.
func TestCallsAreApart(t *testing.T) {
	for range 3 {
		if got := tag.Decide("GET", fields("If-None-Match", `"a"`), there(), moment); got != api.DecideSame {
			t.Error("Decide:", got)
		}
		if got := tag.Decide("GET", fields("If-Match", `"b"`), there(), moment); got != api.DecideFailed {
			t.Error("Decide:", got)
		}
		if got := tag.Decide("GET", nil, there(), moment); got != api.DecideGo {
			t.Error("Decide:", got)
		}
	}
}

// R1: long inputs are read like short ones.
func TestLong(t *testing.T) {
	const n = 100000
	for s, want := range map[string]int{
		strings.Repeat(`"`, n): 2, `"` + strings.Repeat("a", n): 257, strings.Repeat("W/", n): 2, strings.Repeat(" ", n): 0,
	} {
		if got, at, err := tag.Parse(s); got != (api.Tag{}) || at != want || err != api.ErrTag {
			t.Errorf("Parse of %d bytes: %d, %d; want %d", len(s), at, err, want)
		}
	}
	if s, err := tag.Print(strong(strings.Repeat("a", n))); s != "" || err != api.ErrTag {
		t.Error("Print of a long text:", len(s), err)
	}
	many := strings.Repeat(`"b" ,`, n)
	if l, all, at, err := tag.List(many + `"a"`); len(l) != n+1 || l[n] != strong("a") || all || at != 0 || err != api.OK {
		t.Error("List of many:", len(l), all, at, err)
	}
	blank := strings.Repeat(" \t", n)
	for s, want := range map[string]int{many + "*": 5 * n, many + `"a`: 5*n + 2, blank: 2 * n, blank + "x" + blank: 2 * n, blank + "W" + blank: 4*n + 1, strings.Repeat(",", n): n} {
		if l, all, at, err := tag.List(s); len(l) != 0 || all || at != want || err != api.ErrTags {
			t.Errorf("List of %d bytes: %d, %t, %d, %d; want %d", len(s), len(l), all, at, err, want)
		}
	}
	if _, all, at, err := tag.List(blank + "*" + blank); !all || at != 0 || err != api.OK {
		t.Error("List of * with many blanks:", all, at, err)
	}
	var l []api.Field
	for range n {
		l = append(l, api.Field{Name: "If-None-Match", Value: `"b"`}, api.Field{Name: "If-Range", Value: dateOf})
	}
	if got := tag.Decide("GET", append(l, fields("If-None-Match", `"a"`)...), there(), moment); got != api.DecideSame {
		t.Error("Decide by many fields:", got)
	}
	if tag.Ranged(l, there(), moment) {
		t.Error("Ranged by many fields")
	}
}
