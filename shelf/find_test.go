package shelf_test

import (
	"math/rand/v2"
	"slices"
	"strings"
	"testing"

	"turnpike/api"
	"turnpike/shelf"
)

func checkFind(t *testing.T, s *shelf.Shelf, path string, w api.Wish, want api.Found) {
	t.Helper()
	if got := s.Find(path, w); !same(got, want) {
		t.Fatalf("Find(%.100q, %s): %s; want %s", path, show(w), show(got), show(want))
	}
}

func file(at int, vary ...string) api.Found {
	return api.Found{Kind: api.FoundFile, File: at, Vary: vary}
}

func unliked(vary ...string) api.Found { return api.Found{Kind: api.FoundUnliked, Vary: vary} }

func media(s string) api.Wish    { return api.Wish{Accept: s, HasAccept: true} }
func coding(s string) api.Wish   { return api.Wish{Coding: s, HasCoding: true} }
func language(s string) api.Wish { return api.Wish{Language: s, HasLanguage: true} }

// variant is a file at /a.
func variant(media, coding, language string) api.File {
	return api.File{Path: "/a", Media: media, Coding: coding, Language: language, Time: -1}
}

// choice is what is found at /a for some wishes.
type choice struct {
	w    api.Wish
	want api.Found
}

func checkChoices(t *testing.T, l []api.File, choices []choice) {
	t.Helper()
	s := newShelf(t, l)
	for _, x := range choices {
		checkFind(t, s, "/a", x.w, x.want)
		if want := modelFind(l, "/a", x.w); !same(want, x.want) {
			t.Errorf("the model of %s: %s; want %s", show(x.w), show(want), show(x.want))
		}
	}
}

// 17.5: example 3.
func TestFindPlaces(t *testing.T) {
	s := newShelf(t, plains("/d/index.html", "/d/e/f"))
	checkFind(t, s, "/d", api.Wish{}, api.Found{Kind: api.FoundSlash, Path: "/d/"})
	checkFind(t, s, "/d/", api.Wish{}, file(0))
	checkFind(t, s, "/d/e/", api.Wish{}, api.Found{Kind: api.FoundDirectory, Path: "/d/e/"})
	checkFind(t, s, "/x", api.Wish{}, api.Found{})
	checkFind(t, s, "/d/e", api.Wish{}, api.Found{Kind: api.FoundSlash, Path: "/d/e/"})
	checkFind(t, s, "/d/e/f", api.Wish{}, file(1))
	checkFind(t, s, "/d/index.html", api.Wish{}, file(0))
	checkFind(t, s, "/", api.Wish{}, api.Found{Kind: api.FoundDirectory, Path: "/"})
	checkFind(t, s, "", api.Wish{}, api.Found{Kind: api.FoundSlash, Path: "/"})
	for _, path := range []string{"/d/e/f/", "/d/index.html/", "/D", "/d/i", "d", "d/", "//", "/d//", "/./d", "/%64", "\xff", "/d\x00", "*"} {
		checkFind(t, s, path, api.Wish{}, api.Found{})
	}
}

// 17.5: a file stands ahead of a directory of its name, an index ahead of its directory.
func TestFindOrder(t *testing.T) {
	s := newShelf(t, plains("/a", "/a/b", "/c/index.html/d", "/e/index.htm", "/index.html", "/f//index.html"))
	checkFind(t, s, "/a", api.Wish{}, file(0))
	checkFind(t, s, "/a/", api.Wish{}, api.Found{Kind: api.FoundDirectory, Path: "/a/"})
	checkFind(t, s, "/c/", api.Wish{}, api.Found{Kind: api.FoundDirectory, Path: "/c/"})
	checkFind(t, s, "/c/index.html", api.Wish{}, api.Found{Kind: api.FoundSlash, Path: "/c/index.html/"})
	checkFind(t, s, "/e/", api.Wish{}, api.Found{Kind: api.FoundDirectory, Path: "/e/"})
	checkFind(t, s, "/", api.Wish{}, file(4))
	checkFind(t, s, "", api.Wish{}, api.Found{Kind: api.FoundSlash, Path: "/"})
	checkFind(t, s, "/f", api.Wish{}, api.Found{Kind: api.FoundSlash, Path: "/f/"})
	checkFind(t, s, "/f/", api.Wish{}, api.Found{Kind: api.FoundDirectory, Path: "/f/"})
	checkFind(t, s, "/f//", api.Wish{}, file(5))
}

// 17.5: a path of any length is asked for.
func TestFindLongPaths(t *testing.T) {
	long := "/" + strings.Repeat("a", 1021)
	s := newShelf(t, plains(long+"/b"))
	checkFind(t, s, long+"/b", api.Wish{}, file(0))
	checkFind(t, s, long, api.Wish{}, api.Found{Kind: api.FoundSlash, Path: long + "/"})
	checkFind(t, s, long+"/", api.Wish{}, api.Found{Kind: api.FoundDirectory, Path: long + "/"})
	checkFind(t, s, long+"/b/", api.Wish{}, api.Found{})
	checkFind(t, s, strings.Repeat(long, 1000), api.Wish{}, api.Found{})
}

// 17.5: an index has variants, as any file.
func TestFindIndexVariants(t *testing.T) {
	german, english := plain("/d/index.html"), plain("/d/index.html")
	german.Language, english.Language = "de", "en"
	s := newShelf(t, []api.File{plain("/d/x"), german, english})
	checkFind(t, s, "/d/", language("en"), file(2, "Accept-Language"))
	checkFind(t, s, "/d/", api.Wish{}, file(1, "Accept-Language"))
	checkFind(t, s, "/d/", language("fr"), unliked("Accept-Language"))
	checkFind(t, s, "/d", language("fr"), api.Found{Kind: api.FoundSlash, Path: "/d/"})
}

// 17.5: example 4, and the edges of languages.
func TestFindLanguages(t *testing.T) {
	vary := "Accept-Language"
	checkChoices(t, []api.File{variant("a/b", "", "de"), variant("a/b", "", "en")}, []choice{
		{language("en;q=0.5, de;q=0.1"), file(1, vary)},
		{language("fr"), unliked(vary)},
		{language(""), file(0, vary)},
		{language(" , "), file(0, vary)},
		{api.Wish{}, file(0, vary)},
		{api.Wish{Language: "en"}, file(0, vary)},
		{language("en"), file(1, vary)},
		{language("EN"), file(1, vary)},
		{language("en, de"), file(0, vary)},
		{language("en-GB"), unliked(vary)},
		{language("*"), file(0, vary)},
		{language("de;q=0.5, *"), file(1, vary)},
		{language("*;q=0"), unliked(vary)},
		{language("*, de;q=0"), file(1, vary)},
		{language("de;q=0, en;q=0"), unliked(vary)},
		{language("de;q=0.1, de, en;q=0.5"), file(1, vary)},
		{language("*;q=0.1, *, en;q=0.5"), file(1, vary)},
		{language("en;q=2"), file(0, vary)},
		{language("e n"), file(0, vary)},
		{language("en\""), file(0, vary)},
	})
	checkChoices(t, []api.File{variant("a/b", "", "de"), variant("a/b", "", "de-AT-1996"), variant("a/b", "", "")}, []choice{
		{language("de-at, de;q=0.5, *;q=0.1"), file(1, vary)},
		{language("de, de-at;q=0.5"), file(0, vary)},
		{language("de;q=0, DE-AT;q=0"), file(2, vary)},
		{language("fr"), file(2, vary)},
		{language("de-at-1;q=0.9, de-a;q=0.8"), file(2, vary)},
		{language("de-at-1996, de;q=0.9, *;q=0"), file(1, vary)},
	})
}

// 17.5: codings, and where nothing is coded.
func TestFindCodings(t *testing.T) {
	vary := "Accept-Encoding"
	checkChoices(t, []api.File{variant("a/b", "gzip", ""), variant("a/b", "", ""), variant("a/b", "br", "")}, []choice{
		{api.Wish{}, file(0, vary)},
		{api.Wish{Coding: "br"}, file(0, vary)},
		{coding(""), file(1, vary)},
		{coding("br"), file(2, vary)},
		{coding("BR, gzip;q=0.9"), file(2, vary)},
		{coding("gzip;q=0.001"), file(0, vary)},
		{coding("br;q=0.001"), file(1, vary)},
		{coding("br;q=0.002"), file(2, vary)},
		{coding("br;q=0, gzip;q=0"), file(1, vary)},
		{coding("identity"), file(1, vary)},
		{coding("identity;q=0"), unliked(vary)},
		{coding("*;q=0"), unliked(vary)},
		{coding("*;q=0, br;q=0.1"), file(2, vary)},
		{coding("*"), file(0, vary)},
		{coding("*, gzip;q=0"), file(1, vary)},
		{coding("*, gzip;q=0, identity;q=0"), file(2, vary)},
		{coding("br;q=0.1, br, gzip;q=0.5"), file(0, vary)},
		{coding("x-gzip, deflate"), file(1, vary)},
		{coding("br;q=x"), file(0, vary)},
		{coding("identity;q=0, *;q=2"), file(0, vary)},
	})
	checkChoices(t, []api.File{variant("a/b", "gzip", "")}, []choice{
		{api.Wish{}, file(0)},
		{coding(""), unliked()},
		{coding("identity"), unliked()},
		{coding("gzip"), file(0)},
		{coding("\""), file(0)},
	})
	checkChoices(t, []api.File{variant("a/b", "*", ""), variant("a/b", "", "")}, []choice{
		{coding("*"), file(0, vary)},
		{coding("gzip"), file(1, vary)},
	})
}

// 17.5: media types, with their parameters.
func TestFindMedia(t *testing.T) {
	vary := "Accept"
	checkChoices(t, []api.File{variant("image/png", "", ""), variant("text/html; charset=utf-8", "", ""), variant("text/html", "", "")}, []choice{
		{api.Wish{}, file(0, vary)},
		{api.Wish{Accept: "text/html"}, file(0, vary)},
		{media(""), file(0, vary)},
		{media("text/html"), file(1, vary)},
		{media("text/html;charset=utf-8;q=0.5, text/html"), file(2, vary)},
		{media("TEXT/*;q=0.2, image/*;q=0.3"), file(0, vary)},
		{media("*/*;q=0.1, image/png;q=0"), file(1, vary)},
		{media("a/b"), unliked(vary)},
		{media("*/*;q=0"), unliked(vary)},
		{media("text"), file(0, vary)},
		{media("text/html;q=1.1"), file(0, vary)},
		{media("a/b, "), unliked(vary)},
		{media(" , "), file(0, vary)},
	})
}

// 17.5: a liking is a product: what is liked in all three comes ahead of what is liked in one.
func TestFindProduct(t *testing.T) {
	l := []api.File{variant("text/html", "", "de"), variant("text/plain", "gzip", "de"), variant("text/plain", "", "en")}
	vary := []string{"Accept", "Accept-Encoding", "Accept-Language"}
	wish := func(media, coding, language string) api.Wish {
		return api.Wish{Accept: media, Coding: coding, Language: language, HasAccept: true, HasCoding: true, HasLanguage: true}
	}
	checkChoices(t, l, []choice{
		{wish("text/html, text/plain;q=0.5", "gzip, identity;q=0.4", "de, en;q=0.9"), file(1, vary...)},
		{wish("text/html, text/plain;q=0.5", "gzip, identity;q=0.6", "de, en;q=0.9"), file(0, vary...)},
		{wish("text/html, text/plain;q=0.5", "gzip, identity;q=0.5", "de, en;q=0.9"), file(0, vary...)},
		{wish("text/html;q=0.5, text/plain", "gzip;q=0.001, identity", "de, en;q=0.501"), file(2, vary...)},
		{wish("text/html;q=0.5, text/plain", "gzip;q=0.001, identity", "de, en;q=0.5"), file(0, vary...)},
		{wish("text/html;q=0.001", "", "de;q=0.001"), file(0, vary...)},
		{wish("text/html;q=0", "gzip;q=0", "en;q=0"), unliked(vary...)},
		{wish("text/html", "gzip", "en"), unliked(vary...)},
		{wish("text/html", "gzip, *;q=0", "*"), unliked(vary...)},
		{wish("x", "gzip, *;q=0", "y z"), file(1, vary...)},
		{wish("text/plain", "gzip;q=x", "en"), file(2, vary...)},
	})
}

// 17.5: fields on which the choice hangs: of texts as they stand, among the variants alone, whatever is wished.
func TestVary(t *testing.T) {
	for _, x := range []struct {
		l    []api.File
		want []string
	}{
		{[]api.File{variant("a/b", "gzip", "de")}, nil},
		{[]api.File{variant("a/b", "gzip", "de"), {Path: "/b", Media: "a/c"}, {Path: "/a/b", Media: "a/d", Coding: "br"}}, nil},
		{[]api.File{variant("a/b", "", ""), variant("a/c", "", "")}, []string{"Accept"}},
		{[]api.File{variant("a/b", "", ""), variant("a/b", "gzip", "")}, []string{"Accept-Encoding"}},
		{[]api.File{variant("a/b", "", ""), variant("a/b", "", "de")}, []string{"Accept-Language"}},
		{[]api.File{variant("a/b", "", "de"), variant("a/b", "gzip", "DE")}, []string{"Accept-Encoding", "Accept-Language"}},
		{[]api.File{variant("a/b; c=d", "", "de"), variant("a/b; c=D", "", "en")}, []string{"Accept", "Accept-Language"}},
		{[]api.File{variant("a/b", "", ""), variant("a/c", "br", "")}, []string{"Accept", "Accept-Encoding"}},
		{[]api.File{variant("a/b", "", ""), variant("a/b", "br", ""), variant("a/b", "", "de"), variant("a/c", "", "")}, []string{"Accept", "Accept-Encoding", "Accept-Language"}},
		{[]api.File{variant("a/b", "", ""), variant("a/b", "br", ""), variant("a/b", "br", "de")}, []string{"Accept-Encoding", "Accept-Language"}},
	} {
		s := newShelf(t, x.l)
		checkFind(t, s, "/a", api.Wish{}, file(0, x.want...))
		checkFind(t, s, "/a", media("x/y"), unliked(x.want...))
		checkFind(t, s, "/a", api.Wish{Accept: "*/*", Coding: "*", Language: "*", HasAccept: true, HasCoding: true, HasLanguage: true}, file(0, x.want...))
	}
}

// manyVariants is files at one path in all their kinds.
func manyVariants() []api.File {
	var l []api.File
	for _, media := range []string{"text/html", "text/html; level=1", "image/png"} {
		for _, coding := range []string{"", "gzip", "br"} {
			for _, language := range []string{"", "de", "de-AT", "EN", "en-gb-x"} {
				l = append(l, variant(media, coding, language))
			}
		}
	}
	return l
}

// someField is a field of some elements with some qualities, sometimes one that is refused, or not there.
func someField(r *rand.Rand, elements []string) (string, bool) {
	qualities := []string{"", "", ";q=1", ";q=0", ";q=0.001", ";q=0.3", ";q=0.5", ";q=0.501", ";Q=0.9;x=y", "; q=0.05"}
	var l []string
	for range r.IntN(5) {
		l = append(l, elements[r.IntN(len(elements))]+qualities[r.IntN(len(qualities))])
	}
	if r.IntN(20) == 0 {
		l = append(l, []string{"\"", "a b", "*;q=2", "*/*;q=x", "/"}[r.IntN(5)])
	}
	return strings.Join(l, []string{",", ", ", " ,,\t"}[r.IntN(3)]), r.IntN(5) > 0
}

func someWish(r *rand.Rand) api.Wish {
	var w api.Wish
	w.Accept, w.HasAccept = someField(r, []string{"*/*", "text/*", "text/html", "Text/HTML;level=1", "text/html;level=2", "image/png", "image/*", "a/b"})
	w.Coding, w.HasCoding = someField(r, []string{"*", "gzip", "GZIP", "br", "identity", "Identity", "deflate"})
	w.Language, w.HasLanguage = someField(r, []string{"*", "de", "DE", "de-at", "en", "En-GB", "en-gb-x", "en-g", "e", "fr"})
	return w
}

// 17.5: rows of variants and wishes from a fixed seed.
func TestChoicesAgainstModel(t *testing.T) {
	r := rand.New(rand.NewPCG(17, 5))
	all := manyVariants()
	kinds := map[int]int{}
	for range 3000 {
		r.Shuffle(len(all), func(i, k int) { all[i], all[k] = all[k], all[i] })
		l := slices.Clone(all[:1+r.IntN(8)])
		s := newShelf(t, l)
		for range 3 {
			w := someWish(r)
			want := modelFind(l, "/a", w)
			kinds[want.Kind]++
			checkFind(t, s, "/a", w, want)
		}
	}
	if kinds[api.FoundFile] < 1000 || kinds[api.FoundUnliked] < 1000 {
		t.Error("too few of a kind:", kinds)
	}
}

// 17.7: what is found stands there and is liked; another order finds the same, but where likings are equal.
func TestFindInAnotherOrder(t *testing.T) {
	r := rand.New(rand.NewPCG(17, 7))
	l := append(manyVariants(), plains("/b", "/d/e/f", "/d/g")...)
	for _, f := range manyVariants()[:20] {
		f.Path = "/d/index.html"
		l = append(l, f)
	}
	first := newShelf(t, l)
	for range 500 {
		r.Shuffle(len(l), func(i, k int) { l[i], l[k] = l[k], l[i] })
		other := newShelf(t, l)
		for _, path := range []string{"/a", "/b", "/d", "/d/", "/d/e/", "/x", "/d/index.html"} {
			w := someWish(r)
			a, b := first.Find(path, w), other.Find(path, w)
			one, oneIs := first.File(a.File)
			two, twoIs := other.File(b.File)
			a.File, b.File = 0, 0
			if !same(a, b) || !oneIs || !twoIs {
				t.Fatalf("Find(%q, %s): %s and %s", path, show(w), show(a), show(b))
			}
			if a.Kind != api.FoundFile {
				continue
			}
			liking := modelLiking(two, w)
			if two.Path != path && two.Path != path+"index.html" || liking.Sign() == 0 || liking.Cmp(modelLiking(one, w)) != 0 {
				t.Fatalf("Find(%q, %s): %s and %s", path, show(w), show(one), show(two))
			}
		}
	}
}
