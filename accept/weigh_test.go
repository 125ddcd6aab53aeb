package accept_test

import (
	"slices"
	"testing"

	"turnpike/accept"
	"turnpike/api"
)

func liked(m api.Media, q int) api.Range { return api.Range{Media: m, Quality: q} }

func word(name string, q int) api.Weight { return api.Weight{Name: name, Quality: q} }

func sameRange(a, b api.Range) bool { return sameMedia(a.Media, b.Media) && a.Quality == b.Quality }

func checkRanges(t *testing.T, s string, want []api.Range, wantErr api.Errno) {
	t.Helper()
	if got, err := accept.Ranges(s); !slices.EqualFunc(got, want, sameRange) || err != wantErr {
		t.Fatalf("Ranges(%q): %v, %d; want %v, %d", s, got, err, want, wantErr)
	}
}

func checkWeights(t *testing.T, s string, want []api.Weight, wantErr api.Errno) {
	t.Helper()
	if got, err := accept.Weights(s); !slices.Equal(got, want) || err != wantErr {
		t.Fatalf("Weights(%q): %v, %d; want %v, %d", s, got, err, want, wantErr)
	}
}

// 7.3, the example 3.
func TestRanges(t *testing.T) {
	for _, x := range []struct {
		s    string
		want []api.Range
	}{
		{"text/*;q=0.3, text/html;level=1, */*;q=0.1;x=y", []api.Range{
			liked(media("text", "*"), 300), liked(media("text", "html", has("level", "1")), 1000), liked(media("*", "*"), 100),
		}},
		{"", nil},
		{" ,\t, ", nil},
		{",a/b,,c/d,", []api.Range{liked(media("a", "b"), 1000), liked(media("c", "d"), 1000)}},
		{"A/B;C=D;Q=0.25", []api.Range{liked(media("a", "b", has("c", "D")), 250)}},
		{"a/b;q=0", []api.Range{liked(media("a", "b"), 0)}},
		{"a/b ; q=0.", []api.Range{liked(media("a", "b"), 0)}},
		{`a/b;q="0.5"`, []api.Range{liked(media("a", "b"), 500)}},
		{"a/b;c=1;q=0.5;d=2;q=9;e", []api.Range{liked(media("a", "b", has("c", "1")), 500)}},
		{"a/b;q=1;Q;q=2", []api.Range{liked(media("a", "b"), 1000)}},
		{"a/b;;c=1;;", []api.Range{liked(media("a", "b", has("c", "1")), 1000)}},
		{`a/b;c="x,y;q=0", d/e`, []api.Range{liked(media("a", "b", has("c", "x,y;q=0")), 1000), liked(media("d", "e"), 1000)}},
		{"*/*;a=b", []api.Range{liked(media("*", "*", has("a", "b")), 1000)}},
		{"a*/b, a/b*, **/c", []api.Range{liked(media("a*", "b"), 1000), liked(media("a", "b*"), 1000), liked(media("**", "c"), 1000)}},
		{"a/b;qq=1;xq=2", []api.Range{liked(media("a", "b", has("qq", "1"), has("xq", "2")), 1000)}},
		{"b/a, a/b, b/a", []api.Range{liked(media("b", "a"), 1000), liked(media("a", "b"), 1000), liked(media("b", "a"), 1000)}},
	} {
		checkRanges(t, x.s, x.want, api.OK)
	}
}

// 7.3, the example 3: wrong ones, and which is told first.
func TestRangesWrong(t *testing.T) {
	for _, x := range []struct {
		s   string
		err api.Errno
	}{
		{"*/html", api.ErrRange}, {"a/b;q=2", api.ErrQuality},
		{"*", api.ErrRange}, {"a", api.ErrRange}, {"/", api.ErrRange}, {"a/", api.ErrRange}, {"/b", api.ErrRange}, {"a/b/c", api.ErrRange}, {"*/**", api.ErrRange},
		{"a/b c", api.ErrRange}, {"a/b;c", api.ErrRange}, {"a/b;c=", api.ErrRange}, {"a/b;c=1 d", api.ErrRange}, {`a/b;c="1"d`, api.ErrRange}, {"a /b", api.ErrRange},
		{"a/b;c;q=1", api.ErrRange}, {"a/b;c;q=2", api.ErrRange}, {"a/b;q=2;c=", api.ErrRange}, {"a/b;q=2 c", api.ErrRange}, {"*/b;q=2", api.ErrRange}, {"a;q=2", api.ErrRange},
		{"a/b;q=", api.ErrRange}, {"a/b;q=1;Q;q=", api.ErrRange}, {"a/b;q", api.ErrQuality}, {`a/b;q=""`, api.ErrQuality}, {"a/b;q;q=1", api.ErrQuality}, {"a/b;Q=1.1", api.ErrQuality}, {"a/b;q=0.1234;x", api.ErrQuality},
		{"a/b, a/b;q=2, c", api.ErrQuality}, {"a/b, c, a/b;q=2", api.ErrRange}, {"a/b;q=x,\"", api.ErrList}, {"c,\"a", api.ErrList}, {`a"b`, api.ErrList},
		{`"a/b"`, api.ErrRange}, {"a/b\n", api.ErrRange}, {"a/\xff", api.ErrRange}, {"a/b;c=\xff", api.ErrRange},
	} {
		checkRanges(t, x.s, nil, x.err)
	}
}

// 7.3: all short texts, held against patterns.
func TestRangesAgainstPattern(t *testing.T) {
	for s := range texts([]string{"*", "/", "A", ";", ",", " ", `"`}, 6) {
		want, err := modelRanges(s)
		checkRanges(t, s, want, err)
	}
	for s := range texts([]string{";", ";q", ";Q=1", "=", "0", "x", ",", "*/*", " ", `"`}, 5) {
		want, err := modelRanges("a/b" + s)
		checkRanges(t, "a/b"+s, want, err)
	}
}

// 7.4
func TestWeights(t *testing.T) {
	for _, x := range []struct {
		s    string
		want []api.Weight
	}{
		{"gzip;q=0.5, *;q=0", []api.Weight{word("gzip", 500), word("*", 0)}},
		{"de-AT, de;q=0.5, *;q=0.1", []api.Weight{word("de-at", 1000), word("de", 500), word("*", 100)}},
		{"", nil},
		{", ,\t", nil},
		{"GZip ; Q=0.125", []api.Weight{word("gzip", 125)}},
		{"a;x;y=1;q=0.5;z;q=7", []api.Weight{word("a", 500)}},
		{"a;x", []api.Weight{word("a", 1000)}},
		{"a;;", []api.Weight{word("a", 1000)}},
		{`a;q="1.000"`, []api.Weight{word("a", 1000)}},
		{`a;x=",;q=0";q=0.1,b`, []api.Weight{word("a", 100), word("b", 1000)}},
		{"b,a,,B", []api.Weight{word("b", 1000), word("a", 1000), word("b", 1000)}},
		{"!#$%&'*+-.^_`|~Z", []api.Weight{word("!#$%&'*+-.^_`|~z", 1000)}},
	} {
		checkWeights(t, x.s, x.want, api.OK)
	}
	for _, x := range []struct {
		s   string
		err api.Errno
	}{
		{"/", api.ErrToken}, {"a/b", api.ErrToken}, {";q=1", api.ErrToken}, {"a b", api.ErrToken}, {"a;x=", api.ErrToken}, {"a;q=", api.ErrToken}, {"a;q=1 b", api.ErrToken},
		{`"a"`, api.ErrToken}, {"a=b", api.ErrToken}, {"a;q=2 b", api.ErrToken}, {"a;q=2;x=", api.ErrToken}, {"\xff", api.ErrToken}, {"a\n", api.ErrToken}, {`a;x="1"2`, api.ErrToken},
		{"a;q", api.ErrQuality}, {"a;q=2", api.ErrQuality}, {"a;q;q=1", api.ErrQuality}, {`a;q=""`, api.ErrQuality}, {"a;Q=.5", api.ErrQuality}, {"*;q=1.5", api.ErrQuality},
		{"a, b;q=2, /", api.ErrQuality}, {"a, /, b;q=2", api.ErrToken}, {`a;q=2, "`, api.ErrList}, {`/, "`, api.ErrList}, {`a"`, api.ErrList},
	} {
		checkWeights(t, x.s, nil, x.err)
	}
}

// 7.4: all short texts, held against patterns.
func TestWeightsAgainstPattern(t *testing.T) {
	for s := range texts([]string{"A", "*", ";", "=", ",", " ", `"`, "/"}, 6) {
		want, err := modelWeights(s)
		checkWeights(t, s, want, err)
	}
	for s := range texts([]string{";", ";q", ";Q=1", "=", "0", "x", ",", "*", " ", `"`}, 5) {
		want, err := modelWeights("a" + s)
		checkWeights(t, "a"+s, want, err)
	}
}

// 7.3, 7.4: each byte at each place.
func TestListsEachByte(t *testing.T) {
	for c := range 256 {
		b := string([]byte{byte(c)})
		for _, s := range []string{b, "a" + b, "a" + b + "b", "a/" + b, b + "/*", "a/b" + b, "a/b" + b + "q=1", "a/b;" + b + "=1", "a/b;q=" + b, "a/b;q" + b + "1", "a/b;q=1" + b, "a" + b + "q=1", "a;" + b + "=1", "a;q=" + b, `a/b;c="` + b + `"`} {
			ranges, err := modelRanges(s)
			checkRanges(t, s, ranges, err)
			weights, err := modelWeights(s)
			checkWeights(t, s, weights, err)
		}
	}
}
