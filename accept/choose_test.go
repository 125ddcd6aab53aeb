package accept_test

import (
	"math"
	"slices"
	"strings"
	"testing"

	"turnpike/accept"
	"turnpike/api"
)

func parsed(t *testing.T, s string) api.Media {
	t.Helper()
	m, err := accept.Parse(s)
	if err != api.OK {
		t.Fatalf("Parse(%q): %d", s, err)
	}
	return m
}

func ranges(t *testing.T, s string) []api.Range {
	t.Helper()
	l, err := accept.Ranges(s)
	if err != api.OK {
		t.Fatalf("Ranges(%q): %d", s, err)
	}
	return l
}

func weights(t *testing.T, s string) []api.Weight {
	t.Helper()
	l, err := accept.Weights(s)
	if err != api.OK {
		t.Fatalf("Weights(%q): %d", s, err)
	}
	return l
}

// 7.6, the example 4.
func TestLiking(t *testing.T) {
	const three = "text/*;q=0.3, text/html;level=1, */*;q=0.1;x=y"
	for _, x := range []struct {
		l, m string
		want int
	}{
		{three, "text/html;level=1", 1000},
		{three, "text/html", 300},
		{three, "text/html;level=2", 300},
		{three, "a/b", 100},
		{"", "a/b", 1000},
		{"c/d", "a/b", 0},
		{"*/*;q=0", "a/b", 0},
		{"a/b;q=0.1, a/b;q=0.9", "a/b", 100},
		{"*/*;q=0.9, a/*;q=0.5, a/b;q=0.1", "a/b", 100},
		{"a/b;q=0, a/*;q=0.5, */*", "a/b", 0},
		{"a/*;x=1;y=2;q=0.2, a/b;q=0.4", "a/b;x=1;y=2", 400},
		{"*/*;x=1;y=2;q=0.2, a/*;q=0.4", "a/b;x=1;y=2", 400},
		{"a/b;x=1;q=0.2, a/b;x=1;y=2;q=0.1, a/b;y=2;q=0.9", "a/b;x=1;y=2", 100},
		{"a/b;x=1;q=0.2, a/b;y=2;q=0.9", "a/b;x=1;y=2", 200},
		{"a/b;y=2;q=0.9, a/b;x=1;q=0.2", "a/b;x=1;y=2", 900},
		{"a/b;x=1;x=1;q=0.3, a/b;x=1;q=0.2", "a/b;x=1", 300},
		{"a/b;x=1;q=0.3, a/b;q=0.2", "a/b;x=2", 200},
	} {
		if got := accept.Liking(ranges(t, x.l), parsed(t, x.m)); got != x.want {
			t.Errorf("Liking(%q, %q): %d; want %d", x.l, x.m, got, x.want)
		}
	}
	if got := accept.Liking([]api.Range{}, api.Media{}); got != 1000 {
		t.Errorf("Liking of an empty list: %d", got)
	}
}

// 7.6: a range that has a subtype and no type is narrower than one that has a type and no subtype.
func TestLikingOfOddRanges(t *testing.T) {
	l := []api.Range{liked(media("a", "*", has("x", "1")), 1), liked(media("*", "b"), 2), liked(media("*", "*"), 3)}
	for range 3 {
		if got := accept.Liking(l, media("a", "b", has("x", "1"))); got != 2 {
			t.Errorf("Liking(%v): %d", l, got)
		}
		l = append(l[1:], l[0])
	}
	for _, q := range []int{math.MinInt, -1, 1001, math.MaxInt} {
		if got := accept.Liking([]api.Range{liked(media("*", "*"), q)}, api.Media{}); got != q {
			t.Errorf("Liking of a range with %d: %d", q, got)
		}
	}
}

// someRanges is ranges of all kinds of narrowness, each with some qualities.
func someRanges(qualities ...int) []api.Range {
	var l []api.Range
	for _, q := range qualities {
		for _, kind := range []string{"*", "a"} {
			for _, sub := range []string{"*", "b"} {
				l = append(l, liked(media(kind, sub), q), liked(media(kind, sub, has("x", "1")), q), liked(media(kind, sub, has("y", "2"), has("x", "1")), q))
			}
		}
	}
	return append(l, liked(media("A", "B"), 7), liked(media("c", "d"), 8))
}

func someOffers() []api.Media {
	return []api.Media{
		media("a", "b"), media("A", "B", has("X", "1")), media("a", "b", has("x", "1"), has("y", "2")), media("a", "c"), media("c", "b", has("y", "2")), media("c", "d"), media("e", "e"),
	}
}

// 7.6: all short lists of ranges, held against the words.
func TestLikingAgainstWords(t *testing.T) {
	check := func(l []api.Range) {
		t.Helper()
		for _, m := range someOffers() {
			if got, want := accept.Liking(l, m), modelLiking(l, m); got != want {
				t.Fatalf("Liking(%v, %v): %d; want %d", l, m, got, want)
			}
		}
	}
	for l := range lists(someRanges(0, 300, 500), 2) {
		check(l)
	}
	for l := range lists(someRanges(0), 4) {
		for i := range l {
			l[i].Quality = 100 * (i + 1)
		}
		check(l)
	}
}

// 7.7, the example 4.
func TestChoose(t *testing.T) {
	for _, x := range []struct {
		l, offers string
		want      int
	}{
		{"text/*;q=0.3, text/html;level=1, */*;q=0.1;x=y", "a/b, text/plain, text/html", 1},
		{"text/*;q=0.3, text/html;level=1, */*;q=0.1;x=y", "a/b, text/plain, text/html;level=1", 2},
		{"", "a/b, c/d", 0},
		{"", "", -1},
		{"a/b", "", -1},
		{"a/b", "c/d", -1},
		{"*/*;q=0", "a/b, c/d", -1},
		{"a/b;q=0, */*;q=0.001", "a/b, c/d", 1},
		{"*/*", "a/b, c/d, e/f", 0},
		{"e/f;q=0.2, c/d;q=0.2", "a/b, c/d, e/f", 1},
	} {
		var offers []api.Media
		for _, r := range ranges(t, x.offers) {
			offers = append(offers, r.Media)
		}
		if got := accept.Choose(ranges(t, x.l), offers); got != x.want {
			t.Errorf("Choose(%q, %q): %d; want %d", x.l, x.offers, got, x.want)
		}
	}
	for _, q := range []int{0, -1, math.MinInt} {
		if got := accept.Choose([]api.Range{liked(media("*", "*"), q)}, someOffers()); got != -1 {
			t.Errorf("Choose by a range with %d: %d", q, got)
		}
	}
}

// 7.7, 7.10: all short lists, held against the words; and what is chosen is met by something that was liked.
func TestChooseAgainstWords(t *testing.T) {
	rows := slices.Collect(lists(someOffers(), 2))
	rows = append(rows, someOffers())
	for l := range lists(someRanges(0, 300, 1000), 2) {
		for _, offers := range rows {
			got, want := accept.Choose(l, offers), modelChoose(l, offers)
			if got != want {
				t.Fatalf("Choose(%v, %v): %d; want %d", l, offers, got, want)
			}
			if got < 0 || len(l) == 0 {
				continue
			}
			if !slices.ContainsFunc(l, func(r api.Range) bool { return r.Quality > 0 && accept.Meets(r.Media, offers[got]) }) {
				t.Fatalf("Choose(%v, %v): %d is met by nothing that was liked", l, offers, got)
			}
		}
	}
}

// 7.10: another order of ranges that are unlike in narrowness chooses the same.
func TestChooseWhateverTheOrder(t *testing.T) {
	unlike := []api.Range{
		liked(media("*", "*"), 100), liked(media("a", "*"), 300), liked(media("a", "b"), 200),
		liked(media("a", "b", has("x", "1")), 0), liked(media("a", "b", has("x", "1"), has("y", "2")), 700),
	}
	var rows [][]api.Media
	for offers := range lists(someOffers(), 2) {
		rows = append(rows, offers)
	}
	for _, l := range orders(unlike) {
		for _, offers := range rows {
			if got, want := accept.Choose(l, offers), accept.Choose(unlike, offers); got != want {
				t.Fatalf("Choose(%v, %v): %d; in another order: %d", l, offers, got, want)
			}
		}
	}
}

// orders is a list in all its orders.
func orders[T any](l []T) [][]T {
	if len(l) == 0 {
		return [][]T{nil}
	}
	var out [][]T
	for i, first := range l {
		for _, rest := range orders(slices.Delete(slices.Clone(l), i, i+1)) {
			out = append(out, append([]T{first}, rest...))
		}
	}
	return out
}

// 7.8, the example 5.
func TestChooseCoding(t *testing.T) {
	for _, x := range []struct {
		l      string
		given  bool
		offers string
		want   int
	}{
		{"gzip;q=0.5, *;q=0", true, "identity gzip", 1},
		{"", true, "identity gzip", 0},
		{"", true, "gzip identity", 1},
		{"", true, "gzip", -1},
		{"", false, "gzip identity", 0},
		{"identity;q=0", true, "identity", -1},
		{"identity;q=0, gzip;q=0", false, "gzip identity", 0},
		{"", false, "", -1},
		{"*", true, "", -1},
		{"*;q=0", true, "identity gzip", -1},
		{"*", true, "br gzip identity", 0},
		{"*, identity;q=0", true, "identity gzip", 1},
		{"*;q=0, identity;q=0.1", true, "gzip identity", 1},
		{"gzip;q=0.001", true, "identity gzip", 0},
		{"gzip;q=0.002", true, "identity gzip", 1},
		{"gzip;q=0", true, "gzip identity", 1},
		{"GZIP", true, "identity gZip", 1},
		{"gzip;q=0, gzip", true, "gzip", -1},
		{"*;q=0, *", true, "gzip", -1},
		{"*;q=0, gzip", true, "br gzip", 1},
		{"gzip;q=0.5, br;q=0.5", true, "br gzip", 0},
		{"br", true, "Identity", 0},
		{"br", true, "gzip IDENTITY", 1},
	} {
		if got := accept.ChooseCoding(weights(t, x.l), x.given, strings.Fields(x.offers)); got != x.want {
			t.Errorf("ChooseCoding(%q, %v, %q): %d; want %d", x.l, x.given, x.offers, got, x.want)
		}
	}
	if got := accept.ChooseCoding([]api.Weight{word("GZIP", -5), word("Br", 2000)}, true, []string{"gzip", "bR", "br"}); got != 1 {
		t.Errorf("ChooseCoding by words with capitals: %d", got)
	}
}

// someWeights is each word with each quality.
func someWeights(words []string, qualities ...int) []api.Weight {
	var l []api.Weight
	for _, name := range words {
		for _, q := range qualities {
			l = append(l, word(name, q))
		}
	}
	return l
}

// 7.8: all short lists, held against the words.
func TestChooseCodingAgainstWords(t *testing.T) {
	rows := slices.Collect(lists([]string{"gzip", "Identity", "br", "*", "identity", ""}, 2))
	for l := range lists(someWeights([]string{"*", "gzip", "GZip", "identity", "x"}, 0, 1, 2, 1000), 3) {
		for _, offers := range rows {
			for _, given := range []bool{false, true} {
				if got, want := accept.ChooseCoding(l, given, offers), modelChooseCoding(l, given, offers); got != want {
					t.Fatalf("ChooseCoding(%v, %v, %q): %d; want %d", l, given, offers, got, want)
				}
			}
		}
	}
}

// 7.9, the example 6.
func TestChooseLanguage(t *testing.T) {
	for _, x := range []struct {
		l, offers string
		want      int
	}{
		{"de-AT, de;q=0.5, *;q=0.1", "en de-CH de-at-x", 2},
		{"de-AT, de;q=0.5, *;q=0.1", "en de-CH de", 1},
		{"de-AT, de;q=0.5, *;q=0.1", "en", 0},
		{"", "en de", 0},
		{"", "* de", 0},
		{"", "", -1},
		{"de", "en", -1},
		{"de", "dea de", 1},
		{"de-a", "de-at de-a-b", 1},
		{"de-at", "de", -1},
		{"DE-at", "DE-AT-1990", 0},
		{"de;q=0, *", "de de-AT en", 2},
		{"*;q=0, de;q=0.2", "en de-CH", 1},
		{"*;q=0.3, *", "en", 0},
		{"*;q=0, *", "en", -1},
		{"*", "* en", 1},
		{"*", "- de- -de de--at d1 1d abcdefghi abcdefgh", 7},
		{"de, de;q=0", "de", 0},
		{"de;q=0, de", "de", -1},
		{"de;q=0.9, de-at;q=0", "de-at-x", -1},
		{"de-at;q=0, de;q=0.9", "de-at-x", -1},
		{"de-at-x;q=0.4, de-at;q=0.6, en;q=0.5", "de-at-x-y en", 1},
		{"a-abcdefgh", "a-abcdefghi a-abcdefgh", 1},
		{"a-12345678", "a-123456789 a-12345678-0", 1},
	} {
		if got := accept.ChooseLanguage(weights(t, x.l), strings.Fields(x.offers)); got != x.want {
			t.Errorf("ChooseLanguage(%q, %q): %d; want %d", x.l, x.offers, got, x.want)
		}
	}
}

// 7.9: an offer that is no language has the liking 0, but of an empty list.
func TestWhatIsALanguage(t *testing.T) {
	check := func(s string) {
		t.Helper()
		want := -1
		if wholeLanguage.MatchString(runes(s)) {
			want = 0
		}
		for _, l := range [][]api.Weight{{word("*", 1)}, {word(s, 1), word("*", 1)}} {
			if got := accept.ChooseLanguage(l, []string{s}); got != want {
				t.Fatalf("ChooseLanguage(%v, %q): %d; want %d", l, s, got, want)
			}
		}
		if got := accept.ChooseLanguage(nil, []string{s}); got != 0 {
			t.Fatalf("ChooseLanguage of an empty list, %q: %d", s, got)
		}
	}
	for s := range texts([]string{"a", "Z", "0", "-", "*", " ", "abcdefg"}, 5) {
		check(s)
	}
	for c := range 256 {
		b := string([]byte{byte(c)})
		for _, s := range []string{b, "a" + b, b + "a", "a-" + b, "a-b" + b, "a-" + b + "b", "a" + b + "b", "a-b" + b + "c"} {
			check(s)
		}
	}
}

// 7.9: all short lists, held against the words.
func TestChooseLanguageAgainstWords(t *testing.T) {
	rows := slices.Collect(lists([]string{"de", "de-AT", "de-at-x", "en", "dea", "*", ""}, 2))
	for l := range lists(someWeights([]string{"*", "de", "De-at", "de-a", "de-", "", "en"}, 0, 1, 500), 3) {
		for _, offers := range rows {
			if got, want := accept.ChooseLanguage(l, offers), modelChooseLanguage(l, offers); got != want {
				t.Fatalf("ChooseLanguage(%v, %q): %d; want %d", l, offers, got, want)
			}
		}
	}
}
