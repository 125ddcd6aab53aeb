package shelf_test

import (
	"strings"
	"testing"

	"turnpike/api"
	"turnpike/shelf"
	"turnpike/tag"
)

func tagOf(t *testing.T, f api.File) string {
	t.Helper()
	text, has := newShelf(t, []api.File{plain("/other"), f}).Tag(1)
	if !has {
		t.Fatalf("Tag of %s: none", show(f))
	}
	return text
}

// 17.3: sums that were reckoned apart from the program.
func TestTag(t *testing.T) {
	for _, x := range []struct {
		f    api.File
		want string
	}{
		{api.File{Path: "/a", Media: "text/plain", Coding: "", Language: "", Body: "hi"}, `"468cf35a02e4818c-2"`},
		{api.File{Path: "/a", Media: "text/plain", Coding: "", Language: "", Body: ""}, `"a1c8e49b285ba4f7-0"`},
		{api.File{Path: "/a", Media: "text/html; charset=utf-8", Coding: "gzip", Language: "de-AT", Body: "hello"}, `"65c5486d79adbd79-5"`},
		{api.File{Path: "/a", Media: "a/b", Coding: "br", Language: "", Body: "0123456789"}, `"07fb5ebe3d1fd940-10"`},
		{api.File{Path: "/a", Media: "a/b", Body: "16600"}, `"00bd190737ce618a-5"`},
	} {
		if got := tagOf(t, x.f); got != x.want {
			t.Errorf("Tag of %s: %s; want %s", show(x.f), got, x.want)
		}
	}
}

// 17.3: against the library's sum; and it is a strong tag as it stands in a field.
func TestTagAgainstLibrary(t *testing.T) {
	for _, media := range []string{"a/b", "text/html; charset=utf-8", "a/b; c=\"\xe4\""} {
		for _, coding := range []string{"", "gzip", "a"} {
			for _, language := range []string{"", "de", "DE"} {
				for _, body := range append(everyByte(), "", "hello", "a\x00b", strings.Repeat("long", 100000)) {
					f := api.File{Path: "/x", Media: media, Coding: coding, Language: language, Body: body}
					got := tagOf(t, f)
					if want := modelTag(f); got != want {
						t.Fatalf("Tag of %s: %s; want %s", show(f), got, want)
					}
					if read, at, err := tag.Parse(got); read.Weak || at != 0 || err != api.OK {
						t.Fatalf("Tag of %s: %s is no strong tag: %d", show(f), got, err)
					}
				}
			}
		}
	}
}

// 17.3: path and time do not count; each other part does, and where it ends.
func TestTagHangsOn(t *testing.T) {
	first := api.File{Path: "/a", Media: "a/b", Coding: "c", Language: "d", Body: "e", Time: -1}
	moved := first
	moved.Path, moved.Time = "/b", 5
	if tagOf(t, first) != tagOf(t, moved) {
		t.Error("path or time counts")
	}
	seen := map[string]api.File{}
	for _, f := range []api.File{
		first,
		{Path: "/a", Media: "a/bb", Coding: "c", Language: "d", Body: "e"},
		{Path: "/a", Media: "a/b", Coding: "cc", Language: "d", Body: "e"},
		{Path: "/a", Media: "a/b", Coding: "c", Language: "D", Body: "e"},
		{Path: "/a", Media: "a/b", Coding: "c", Language: "d", Body: "f"},
		{Path: "/a", Media: "a/bc", Coding: "", Language: "d", Body: "e"},
		{Path: "/a", Media: "a/b", Coding: "", Language: "c", Body: "e"},
		{Path: "/a", Media: "a/b", Coding: "c", Language: "", Body: "e"},
		{Path: "/a", Media: "a/b", Coding: "cd", Language: "", Body: "e"},
		{Path: "/a", Media: "a/b", Coding: "c", Language: "de", Body: ""},
		{Path: "/a", Media: "a/b", Coding: "c", Language: "", Body: "d\x00e"},
	} {
		text := tagOf(t, f)
		if other, met := seen[text]; met {
			t.Errorf("%s and %s have one tag", show(f), show(other))
		}
		seen[text] = f
	}
}

// 17.7: two bodies of one length that differ in one byte have unlike tags.
func TestTagsOfUnlikeBodies(t *testing.T) {
	const body = "some bytes"
	for at := range body {
		var l []api.File
		for i, b := range everyByte() {
			f := plain("/" + strings.Repeat("x", i+1))
			f.Body = body[:at] + b + body[at+1:]
			l = append(l, f)
		}
		s, _, _ := shelf.New(l)
		seen := map[string]int{}
		for i := range l {
			text, _ := s.Tag(i)
			if other, met := seen[text]; met {
				t.Fatalf("bodies %q and %q have one tag", l[i].Body, l[other].Body)
			}
			seen[text] = i
		}
	}
}
