package shelf_test

import (
	"fmt"
	"math"
	"slices"
	"strings"
	"sync"
	"testing"

	"turnpike/api"
	"turnpike/shelf"
)

// soil writes over all of a list, its spare room too.
func soil[T any](l []T, with T) {
	l = l[:cap(l)]
	for i := range l {
		l[i] = with
	}
}

// checkEmpty asks a shelf without files for all that may be asked.
func checkEmpty(t *testing.T, s *shelf.Shelf) {
	t.Helper()
	if s.Len() != 0 {
		t.Error("Len:", s.Len())
	}
	for _, i := range []int{math.MinInt, -1, 0, 1, math.MaxInt} {
		if f, has := s.File(i); f != (api.File{}) || has {
			t.Errorf("File(%d): %s, %v", i, show(f), has)
		}
		if text, has := s.Tag(i); text != "" || has {
			t.Errorf("Tag(%d): %q, %v", i, text, has)
		}
	}
	for _, path := range []string{"", "/", "/a", "/a/", "/index.html", "\xff"} {
		checkVariants(t, s, path)
		checkEntries(t, s, path)
		checkFind(t, s, path, api.Wish{}, api.Found{})
		checkFind(t, s, path, language("de"), api.Found{})
	}
}

// 17.6: a nil shelf is as one without files; so is one that New did not make.
func TestNil(t *testing.T) {
	checkEmpty(t, nil)
	checkEmpty(t, &shelf.Shelf{})
	checkEmpty(t, newShelf(t, nil))
	checkEmpty(t, newShelf(t, []api.File{}))
}

// R4: files that were handed in are left as they are, what lies behind their end too, and are not kept.
func TestFilesAreCopied(t *testing.T) {
	l := plains("/a", "/b/c", "/a", "/d/")
	kept := slices.Clone(l)
	s := newShelf(t, l[:2])
	checkNew(t, l, 2, api.ErrAgain)
	if !slices.Equal(l, kept) {
		t.Fatal("the list was changed:", show(l))
	}
	soil(l, plain("/soiled"))
	for i, want := range kept[:2] {
		if f, has := s.File(i); f != want || !has {
			t.Errorf("File(%d): %s, %v", i, show(f), has)
		}
	}
	checkVariants(t, s, "/a", 0)
	checkVariants(t, s, "/soiled")
	checkEntries(t, s, "/", "a", "b/")
	checkFind(t, s, "/b", api.Wish{}, api.Found{Kind: api.FoundSlash, Path: "/b/"})
}

// R4: what is written into an answer, its spare room too, shows in no other one, and in nothing that is kept.
func TestListsAreNew(t *testing.T) {
	for n := 1; n < 20; n++ {
		var l []api.File
		var places []int
		var entries []string
		for i := range n {
			f := variant("a/b", fmt.Sprint("c", i), "")
			l, places = append(l, f, plain(fmt.Sprintf("/e/%02d", i))), append(places, 2*i)
			entries = append(entries, fmt.Sprintf("%02d", i))
		}
		l = append(l, variant("a/c", "", "de"))
		places = append(places, 2*n)
		s := newShelf(t, l)
		vary := []string{"Accept", "Accept-Encoding", "Accept-Language"}
		for range 2 {
			variants, other := s.Variants("/a"), s.Variants("/a")
			soil(variants, -1)
			names, otherNames := must(s.Entries("/e/")), must(s.Entries("/e/"))
			soil(names, "soiled")
			found, otherFound := s.Find("/a", api.Wish{}), s.Find("/a", api.Wish{})
			soil(found.Vary, "soiled")
			if !slices.Equal(other, places) || !slices.Equal(otherNames, entries) || !slices.Equal(otherFound.Vary, vary) {
				t.Fatalf("lists share memory: %v, %q, %q", other, otherNames, otherFound.Vary)
			}
		}
		checkVariants(t, s, "/a", places...)
		checkEntries(t, s, "/e/", entries...)
		checkFind(t, s, "/a", api.Wish{}, file(0, vary...))
	}
}

func must(l []string, _ bool) []string { return l }

// R5: two shelves know nothing of one another, and asking changes nothing.
func TestShelvesAreApart(t *testing.T) {
	a, b := newShelf(t, plains("/a", "/b/c")), newShelf(t, plains("/b/d"))
	checkNew(t, plains("/a", "/a"), 1, api.ErrAgain)
	for range 3 {
		checkFind(t, a, "/a", api.Wish{}, file(0))
		checkFind(t, b, "/a", api.Wish{}, api.Found{})
		checkEntries(t, a, "/b/", "c")
		checkEntries(t, b, "/b/", "d")
		checkFind(t, a, "/a", coding("identity;q=0"), unliked())
		if a.Len() != 2 || b.Len() != 1 {
			t.Fatal(a.Len(), b.Len())
		}
	}
}

// R5: many may ask one shelf at the same time.
func TestAskedAtOneTime(t *testing.T) {
	l := append(manyVariants(), plains("/d/e", "/d/f")...)
	s := newShelf(t, l)
	w := api.Wish{Accept: "image/*", Coding: "br", Language: "en", HasAccept: true, HasCoding: true, HasLanguage: true}
	want := modelFind(l, "/a", w)
	var all sync.WaitGroup
	for range 8 {
		all.Go(func() {
			for range 50 {
				entries, _ := s.Entries("/d/")
				text, _ := s.Tag(3)
				if !same(s.Find("/a", w), want) || !slices.Equal(entries, []string{"e", "f"}) || text != modelTag(l[3]) {
					t.Error("another answer")
				}
			}
		})
	}
	all.Wait()
}

// R1 and R2: whatever is handed in, no call panics, and with an error there is nothing beside it but the place.
func TestNoPanic(t *testing.T) {
	some := newShelf(t, append(manyVariants(), plains("/d/e", "/d/index.html")...))
	numbers := []int{math.MinInt, -1, 0, 1, 45, 46, 47, 48, math.MaxInt}
	i := 0
	for s := range texts([]string{"", "/", "\"", "\xff", "a", ".", "%", ";q=", "*", ",", "-", "=", "\x00"}, 3) {
		i++
		n := numbers[i%len(numbers)]
		shelf.MediaOf(s)
		for _, f := range []api.File{
			{Path: s, Media: s, Coding: s, Language: s, Body: s, Time: n},
			{Path: "/" + s, Media: "a/b"},
			{Path: "/a", Media: "a/b" + s},
			{Path: "/a", Media: "a/b", Coding: s, Language: "de"},
			{Path: "/a", Media: "a/b", Language: s, Time: n},
		} {
			x, at, err := shelf.New([]api.File{f})
			if err != api.OK && (x != nil || at != 0 || err != api.ErrFile) || err == api.OK && x.Len() != 1 {
				t.Fatalf("New(%s): %d, %d", show(f), at, err)
			}
			x.Find(s, api.Wish{Accept: s, HasAccept: true})
			x.Tag(0)
		}
		w := api.Wish{Accept: s, Coding: s, Language: s, HasAccept: i%2 > 0, HasCoding: i%3 > 0, HasLanguage: i%5 > 0}
		for _, path := range []string{s, "/" + s, "/a" + s, "/a", "/d/", s + "/"} {
			found := some.Find(path, w)
			if found.Kind < api.FoundNone || found.Kind > api.FoundDirectory || found.File != 0 && found.Kind != api.FoundFile {
				t.Fatalf("Find(%q, %s): %s", path, show(w), show(found))
			}
			some.Variants(path)
			if l, is := some.Entries(path); is != (len(l) > 0) {
				t.Fatalf("Entries(%q): %q, %v", path, l, is)
			}
		}
		some.File(n)
		some.Tag(n)
	}
}

// R1, R6: long fields and long parts are gone through in good time, and no product leaves its bounds.
func TestLongParts(t *testing.T) {
	long := "a" + strings.Repeat("-a", 100000)
	l := []api.File{
		variant("a/b; c="+strings.Repeat("x", 200000), strings.Repeat("c", 200000), long),
		variant("a/b", "", "b"),
	}
	s := newShelf(t, l)
	vary := []string{"Accept", "Accept-Encoding", "Accept-Language"}
	many := strings.Repeat("a-a,", 50000) + "a;q=0"
	checkFind(t, s, "/a", language(many), file(0, vary...))
	checkFind(t, s, "/a", language(long+", b;q=0.5"), file(0, vary...))
	checkFind(t, s, "/a", language(long+"-a, b;q=0.5"), file(1, vary...))
	checkFind(t, s, "/a", coding(strings.Repeat("x,", 50000)+"gzip"), file(1, vary...))
	checkFind(t, s, "/a", coding(strings.Repeat("c", 200000)), file(0, vary...))
	checkFind(t, s, "/a", media(strings.Repeat("x/y,", 20000)+"a/b;c=d, a/b;q=0.1"), file(0, vary...))
}
