package shelf_test

import (
	"fmt"
	"math"
	"slices"
	"strings"
	"testing"

	"turnpike/api"
	"turnpike/shelf"
)

// plain is a file of which nothing counts but its path.
func plain(path string) api.File {
	return api.File{Path: path, Media: "text/plain", Body: "hi", Time: -1}
}

func plains(paths ...string) []api.File {
	var l []api.File
	for _, path := range paths {
		l = append(l, plain(path))
	}
	return l
}

func checkNew(t *testing.T, l []api.File, place int, want api.Errno) {
	t.Helper()
	s, at, err := shelf.New(l)
	if (s != nil) != (want == api.OK) || at != place || err != want {
		t.Fatalf("New(%s): %v, %d, %d; want %d, %d", show(l), s != nil, at, err, place, want)
	}
}

// checkRight asks of one file whether it is right, alone and behind another one.
func checkRight(t *testing.T, f api.File, right bool) {
	t.Helper()
	other := plain("/other")
	if right {
		checkNew(t, []api.File{f}, 0, api.OK)
		checkNew(t, []api.File{other, f}, 0, api.OK)
		return
	}
	checkNew(t, []api.File{f}, 0, api.ErrFile)
	checkNew(t, []api.File{other, f}, 1, api.ErrFile)
}

func newShelf(t *testing.T, l []api.File) *shelf.Shelf {
	t.Helper()
	s, at, err := shelf.New(l)
	if s == nil || at != 0 || err != api.OK {
		t.Fatalf("New(%s): %d, %d", show(l), at, err)
	}
	return s
}

// 17.1: example 1.
func TestNewExample(t *testing.T) {
	checkNew(t, []api.File{{Path: "/a.txt", Media: "text/plain", Body: "hi", Time: -1}}, 0, api.OK)
	for _, path := range []string{"a", "/a/", "/./a"} {
		checkNew(t, plains(path), 0, api.ErrFile)
	}
	checkNew(t, plains("/a.txt", "/a.txt"), 1, api.ErrAgain)
}

// 17.1: each part of a file, right and wrong.
func TestParts(t *testing.T) {
	for _, x := range []struct {
		part         func(*api.File) *string
		right, wrong []string
	}{
		{
			func(f *api.File) *string { return &f.Path },
			[]string{"/a", "/a/b", "//a", "/a//b", "/a%20b", "/%2F", "/...", "/.a", "/a.", "/:@!$&'()*+,;=", "/~", "/A"},
			[]string{"", "/", "//", "a", "a/b", "/a/", "/.", "/..", "/./a", "/a/..", "/a/../b", "/%41", "/%2f", "/%7E", "/%7e", "/%", "/%4", "/%4g", "/a b", "/a?b", "/a#b", "/\xe4", "/a\x00", "*", "http://h/a"},
		},
		{
			func(f *api.File) *string { return &f.Media },
			[]string{"a/b", "text/html; charset=utf-8", "text/html; charset=UTF-8", `a/b; c=""`, `a/b; c="d e"`, `a/b; c="\""`, "a/b; c=d; c=e", "*/*", "text/*", "a/b; q=1", "a/b; c=\"\xe4\""},
			[]string{"", "a", "a/", "/b", "a/b/c", "A/b", "a/B", "Text/plain", "a/b;c=d", "a/b;  c=d", "a/b ; c=d", "a/b; C=d", "a/b; c", "a/b; c=", `a/b; c="d"`, `a/b; c="\d e"`, "a/b;", "a/b; ", " a/b", "a/b ", "a /b", "a/b, c/d", "a/b; c=d e", "a/b; c=\"\n\""},
		},
		{
			func(f *api.File) *string { return &f.Coding },
			[]string{"", "gzip", "br", "x-gzip", "*", "1", "identity2", "identit", "!#$%&'*+-.^_`|~"},
			[]string{"identity", "Identity", "IDENTITY", "Gzip", "gziP", " gzip", "gzip ", "gzip, br", "g zip", "\xe4", "a/b", "gzip;q=1", "\x00"},
		},
		{
			func(f *api.File) *string { return &f.Language },
			[]string{"", "a", "de", "DE", "de-AT", "de-at-1996", "abcdefgh", "a-12345678", "a-1-2-3-4-5", "x-1"},
			[]string{"-", "de-", "-de", "de--at", "abcdefghi", "a-123456789", "1", "1a", "d1", "*", "de_AT", "de at", " de", "de ", "de,en", "d\xe4", "de-\xe4"},
		},
	} {
		for _, s := range x.right {
			f := plain("/a")
			*x.part(&f) = s
			checkRight(t, f, true)
		}
		for _, s := range x.wrong {
			f := plain("/a")
			*x.part(&f) = s
			checkRight(t, f, false)
		}
	}
}

// 17.1
func TestTimes(t *testing.T) {
	for time, right := range map[int]bool{
		math.MinInt: false, api.MinMoment - 1: false, api.MinMoment: true, api.MinMoment + 1: true, -2: true, -1: true, 0: true, 1: true,
		784111777: true, api.MaxMoment - 1: true, api.MaxMoment: true, api.MaxMoment + 1: false, math.MaxInt: false,
	} {
		f := plain("/a")
		f.Time = time
		checkRight(t, f, right)
	}
}

// 17.1: a body is any bytes.
func TestBodies(t *testing.T) {
	for _, body := range append(everyByte(), "", strings.Repeat("x", 100000)) {
		f := plain("/a")
		f.Body = body
		checkRight(t, f, true)
	}
}

// 17.1, R6: a path at its limit and one past it.
func TestPathLength(t *testing.T) {
	for _, n := range []int{1022, 1023, 1024, 1025, 1026, 5000} {
		for _, path := range []string{
			"/" + strings.Repeat("a", n-1),
			strings.Repeat("/", n-1) + "a",
			"/" + strings.Repeat("/a", n)[:n-2] + "b",
			"/" + strings.Repeat("a", n-4) + "%20",
		} {
			if len(path) != n {
				t.Fatal(len(path), n)
			}
			checkRight(t, plain(path), n <= 1024)
		}
	}
}

// 17.1: all short texts as paths and as media types.
func TestPartsAgainstPattern(t *testing.T) {
	check := func(f api.File) {
		checkRight(t, f, modelRight(f))
	}
	for s := range texts([]string{"/", "a", ".", "%41", "%2F", "%2f", "%", "A", " "}, 5) {
		check(plain(s))
		check(plain("/" + s))
	}
	f := plain("/a")
	for s := range texts([]string{"a", "/", ";", " ", "=", `"`, "A", `\`}, 5) {
		for _, front := range []string{"", "a/b", "a/b; c", `a/b; c="`, `a/b; c="d"`} {
			f.Media = front + s
			check(f)
		}
	}
	f = plain("/a")
	for s := range texts([]string{"a", "1", "-", "abcdefgh", "A", "*", " "}, 5) {
		f.Coding, f.Language = "", s
		check(f)
		f.Coding, f.Language = s, ""
		check(f)
	}
}

// 17.1: each byte in each part.
func TestPartsBytes(t *testing.T) {
	for _, b := range everyByte() {
		for _, s := range []string{b, "a" + b, b + "a", "a" + b + "a", "%" + b + "1", "%2" + b, "%4" + b, "%5" + b, "%7" + b} {
			for _, f := range []api.File{
				{Path: s, Media: "a/b"},
				{Path: "/" + s, Media: "a/b"},
				{Path: "/a/" + s + "/a", Media: "a/b"},
				{Path: "/a", Media: s + "/b"},
				{Path: "/a", Media: "a/" + s},
				{Path: "/a", Media: "a/b" + s},
				{Path: "/a", Media: "a/b; c=" + s},
				{Path: "/a", Media: "a/b; " + s + "=d"},
				{Path: "/a", Media: `a/b; c="` + s + `"`},
				{Path: "/a", Media: `a/b; c=" ` + s + `"`},
				{Path: "/a", Media: `a/b; c=" \` + s + `"`},
				{Path: "/a", Media: "a/b", Coding: s},
				{Path: "/a", Media: "a/b", Language: s},
				{Path: "/a", Media: "a/b", Language: "a-" + s},
			} {
				checkRight(t, f, modelRight(f))
			}
		}
	}
}

// 17.1: which files are alike: paths byte by byte, all else without regard to case; bodies and times do not count.
func TestAlike(t *testing.T) {
	first := api.File{Path: "/a", Media: "text/html; charset=utf-8", Coding: "gzip", Language: "de-AT", Body: "1", Time: -1}
	for _, x := range []struct {
		change func(*api.File)
		alike  bool
	}{
		{func(*api.File) {}, true},
		{func(f *api.File) { f.Body = "2" }, true},
		{func(f *api.File) { f.Time = 7 }, true},
		{func(f *api.File) { f.Media = "text/html; charset=UTF-8" }, true},
		{func(f *api.File) { f.Language = "DE-at" }, true},
		{func(f *api.File) { f.Language, f.Media, f.Body = "De-At", "text/html; charset=Utf-8", "" }, true},
		{func(f *api.File) { f.Path = "/A" }, false},
		{func(f *api.File) { f.Path = "/a%20" }, false},
		{func(f *api.File) { f.Media = "text/html" }, false},
		{func(f *api.File) { f.Media = "text/html; charset=utf-8; x=y" }, false},
		{func(f *api.File) { f.Coding = "br" }, false},
		{func(f *api.File) { f.Coding = "" }, false},
		{func(f *api.File) { f.Language = "de" }, false},
		{func(f *api.File) { f.Language = "" }, false},
		{func(f *api.File) { f.Coding, f.Language = "", "gzip" }, false},
	} {
		second := first
		x.change(&second)
		if x.alike {
			checkNew(t, []api.File{first, second}, 1, api.ErrAgain)
			checkNew(t, []api.File{plain("/b"), second, plain("/c"), first}, 3, api.ErrAgain)
			continue
		}
		checkNew(t, []api.File{first, second}, 0, api.OK)
		checkNew(t, []api.File{first, second, first}, 2, api.ErrAgain)
		checkNew(t, []api.File{first, second, second}, 2, api.ErrAgain)
	}
	one, other := plain("/a"), plain("/a")
	one.Media, other.Media = "a/b; c=\"\xc0\"", "a/b; c=\"\xe0\""
	checkNew(t, []api.File{one, other}, 0, api.OK)
}

// 17.1: a file that is no right one is told so, alike or not.
func TestWrongAheadOfAlike(t *testing.T) {
	first, second := plain("/a"), plain("/a")
	second.Media = "Text/plain"
	checkNew(t, []api.File{first, second}, 1, api.ErrFile)
	checkNew(t, []api.File{second, second}, 0, api.ErrFile)
	first.Coding, second = "gzip", first
	second.Coding = "GZIP"
	checkNew(t, []api.File{first, second}, 1, api.ErrFile)
	second.Coding, second.Time = "gzip", math.MaxInt
	checkNew(t, []api.File{first, second}, 1, api.ErrFile)
}

// 17.1: all short lists of files, right, wrong and alike ones.
func TestNewAgainstModel(t *testing.T) {
	german, wrong := plain("/a"), plain("/b")
	german.Language, wrong.Coding = "de", "identity"
	GERMAN := german
	GERMAN.Language = "DE"
	for l := range lists([]api.File{plain("/a"), plain("/A"), plain("/b"), plain("/b/"), german, GERMAN, wrong}, 5) {
		place, err := modelNew(l)
		checkNew(t, l, place, err)
	}
}

func manyFiles(n int) []api.File {
	var l []api.File
	for i := range n {
		l = append(l, plain(fmt.Sprint("/", i)))
	}
	return l
}

// 17.1, R6: the greatest number of files, and one past it.
func TestMostFiles(t *testing.T) {
	all := manyFiles(5000)
	checkNew(t, nil, 0, api.OK)
	checkNew(t, all[:4095], 0, api.OK)
	checkNew(t, all[:4096], 0, api.OK)
	checkNew(t, all[:4097], 4096, api.ErrFile)
	checkNew(t, all, 4096, api.ErrFile)
	for _, x := range []struct {
		at    int
		with  api.File
		place int
		err   api.Errno
	}{
		{0, plain("/a/"), 0, api.ErrFile},
		{4095, plain("/a/"), 4095, api.ErrFile},
		{4095, all[0], 4095, api.ErrAgain},
		{4096, plain("/a/"), 4096, api.ErrFile},
		{4096, all[0], 4096, api.ErrFile},
		{4097, all[0], 4096, api.ErrFile},
	} {
		l := slices.Clone(all)
		l[x.at] = x.with
		checkNew(t, l, x.place, x.err)
	}
	if s := newShelf(t, all[:4096]); s.Len() != 4096 {
		t.Error("Len:", s.Len())
	}
	var variants []api.File
	for i := range 4096 {
		f := plain("/a")
		f.Media = fmt.Sprint("a/", i)
		variants = append(variants, f)
	}
	found := newShelf(t, variants).Find("/a", api.Wish{Accept: "a/4095", HasAccept: true})
	if want := (api.Found{Kind: api.FoundFile, File: 4095, Vary: []string{"Accept"}}); !same(found, want) {
		t.Error(show(found))
	}
}

// 17.1: files keep their places, as they were handed in.
func TestFiles(t *testing.T) {
	l := []api.File{
		{Path: "/z", Media: "text/html; charset=UTF-8", Coding: "gzip", Language: "DE", Body: "\x00\xff", Time: api.MaxMoment},
		{Path: "/a", Media: "a/b", Time: 0},
		{Path: "/z", Media: "text/html; charset=UTF-8", Body: "b", Time: -1},
	}
	for n := range len(l) + 1 {
		s := newShelf(t, l[:n])
		if s.Len() != n {
			t.Errorf("Len: %d; want %d", s.Len(), n)
		}
		for i, want := range l[:n] {
			if f, has := s.File(i); f != want || !has {
				t.Errorf("File(%d): %s, %v; want %s", i, show(f), has, show(want))
			}
		}
		for _, i := range []int{math.MinInt, -2, -1, n, n + 1, math.MaxInt} {
			if f, has := s.File(i); f != (api.File{}) || has {
				t.Errorf("File(%d) of %d: %s, %v", i, n, show(f), has)
			}
			if text, has := s.Tag(i); text != "" || has {
				t.Errorf("Tag(%d) of %d: %q, %v", i, n, text, has)
			}
		}
	}
}
