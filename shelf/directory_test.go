package shelf_test

import (
	"math/rand/v2"
	"slices"
	"strings"
	"testing"

	"turnpike/api"
	"turnpike/shelf"
)

func checkVariants(t *testing.T, s *shelf.Shelf, path string, want ...int) {
	t.Helper()
	if l := s.Variants(path); !slices.Equal(l, want) {
		t.Fatalf("Variants(%.100q): %v; want %v", path, l, want)
	}
}

func checkEntries(t *testing.T, s *shelf.Shelf, path string, want ...string) {
	t.Helper()
	l, is := s.Entries(path)
	if !slices.Equal(l, want) || is != (len(want) > 0) || !is && l != nil {
		t.Fatalf("Entries(%.100q): %.300q, %v; want %.300q", path, l, is, want)
	}
}

// 17.4
func TestVariants(t *testing.T) {
	german, coded := plain("/a"), plain("/a")
	german.Language, coded.Coding = "de", "gzip"
	s := newShelf(t, []api.File{plain("/b"), german, plain("/a/b"), plain("/a"), plain("/A"), coded})
	checkVariants(t, s, "/a", 1, 3, 5)
	checkVariants(t, s, "/b", 0)
	checkVariants(t, s, "/A", 4)
	checkVariants(t, s, "/a/b", 2)
	for _, path := range []string{"", "/", "a", "/a/", "/./a", "/%61", "/c", "/B", "//a", "/a\x00"} {
		checkVariants(t, s, path)
	}
}

// 17.4: example 3, and the edges of directories.
func TestEntries(t *testing.T) {
	s := newShelf(t, plains("/d/index.html", "/d/e/f"))
	checkEntries(t, s, "/d/", "e/", "index.html")
	checkEntries(t, s, "/", "d/")
	checkEntries(t, s, "/d/e/", "f")
	for _, path := range []string{"", "/d", "/d/e", "/d/e/f", "/d/e/f/", "/x/", "d/", "/D/", "//", "/./", "/d//", "/d/i", "/d/index.html/"} {
		checkEntries(t, s, path)
	}
}

// 17.4: each entry once, byte by byte; a file and a directory of one name are two.
func TestEntriesOrder(t *testing.T) {
	german := plain("/b")
	german.Language = "de"
	s := newShelf(t, append(plains("/b", "/a/2", "/b/1", "/a/1", "/a-", "/a.b", "/a", "/B", "/a/1/x", "/%FF", "/~", "/10", "/9", "/ab", "/a0"), german))
	checkEntries(t, s, "/", "%FF", "10", "9", "B", "a", "a-", "a.b", "a/", "a0", "ab", "b", "b/", "~")
	checkEntries(t, s, "/a/", "1", "1/", "2")
	checkEntries(t, s, "/a/1/", "x")
	checkEntries(t, s, "/b/", "1")
}

// 17.4: empty segments are directories as well.
func TestEntriesOfEmptySegments(t *testing.T) {
	s := newShelf(t, plains("//a", "/b//c", "/b///d", "/b/e"))
	checkEntries(t, s, "/", "/", "b/")
	checkEntries(t, s, "//", "a")
	checkEntries(t, s, "///")
	checkEntries(t, s, "/b/", "/", "e")
	checkEntries(t, s, "/b//", "/", "c")
	checkEntries(t, s, "/b///", "d")
	checkEntries(t, s, "/b////")
}

// 17.4: a deep path, and many files in one directory.
func TestEntriesOfMany(t *testing.T) {
	deep := strings.Repeat("/", 1023) + "a"
	s := newShelf(t, plains(deep))
	for n := range 1022 {
		checkEntries(t, s, deep[:n+1], "/")
	}
	checkEntries(t, s, deep[:1023], "a")
	checkEntries(t, s, deep)
	checkEntries(t, s, deep[:1023]+"/")
	all := manyFiles(4096)
	var want []string
	for _, f := range all {
		want = append(want, f.Path[1:])
	}
	slices.Sort(want)
	checkEntries(t, newShelf(t, all), "/", want...)
}

// somePaths is all right paths of at most so many pieces.
func somePaths(most int) []string {
	var l []string
	for s := range texts([]string{"/", "a", "b", "/index.html"}, most) {
		if modelRight(plain(s)) {
			l = append(l, s)
		}
	}
	slices.Sort(l)
	return slices.Compact(l)
}

// somePlaces is what is asked for among such paths.
func somePlaces() []string {
	l := []string{"/index.html/", "/a\xff", "/A", "/a/./", "/%61", "/a/index.htm", "/a/index.html/b", "//index.html", "/a//b"}
	for s := range texts([]string{"/", "a", "b", "index.html"}, 3) {
		l = append(l, s)
	}
	return l
}

// checkPlaces holds a shelf of some paths against the model.
func checkPlaces(t *testing.T, paths, places []string) {
	t.Helper()
	l := plains(paths...)
	s := newShelf(t, l)
	for _, place := range places {
		checkVariants(t, s, place, modelVariants(l, place)...)
		entries, _ := modelEntries(l, place)
		checkEntries(t, s, place, entries...)
		checkFind(t, s, place, api.Wish{}, modelFind(l, place, api.Wish{}))
	}
}

// 17.4, 17.5: all shelves of two files with short paths, and rows of more files from a fixed seed.
func TestPlacesAgainstModel(t *testing.T) {
	paths, places := somePaths(3), somePlaces()
	for i, one := range paths {
		for _, other := range paths[:i] {
			checkPlaces(t, []string{one, other}, places)
		}
	}
	r := rand.New(rand.NewPCG(17, 4))
	paths = somePaths(4)
	for range 100 {
		r.Shuffle(len(paths), func(i, k int) { paths[i], paths[k] = paths[k], paths[i] })
		checkPlaces(t, paths[:r.IntN(9)], append(places, paths[:20]...))
	}
}
