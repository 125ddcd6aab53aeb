package accept_test

import (
	"slices"
	"strings"
	"testing"

	"turnpike/accept"
	"turnpike/api"
)

// soil writes over a list and its spare room.
func soil(l []api.Param) {
	l = l[:cap(l)]
	for i := range l {
		l[i] = api.Param{Name: "soiled", Value: "soiled"}
	}
}

// R4: what is written into an answer shows in no other one, and not in another list of it.
func TestAnswersShareNothing(t *testing.T) {
	const s = "a/b;x=1;y=2;q=0.5;z=3, c/d;x=1;y=2, e/f;q=1;x=2"
	want := ranges(t, s)
	for i := range want {
		l, other := ranges(t, s), ranges(t, s)
		soil(l[i].Media.Params)
		l = slices.Delete(l, i, i+1)
		if !slices.EqualFunc(other, want, sameRange) || !slices.EqualFunc(l, slices.Delete(slices.Clone(want), i, i+1), sameRange) {
			t.Errorf("Ranges shares parameters: %v, %v", l, other)
		}
	}
	m, other := parsed(t, "a/b;x=1;y=2"), parsed(t, "a/b;x=1;y=2")
	soil(m.Params)
	if !sameMedia(other, media("a", "b", has("x", "1"), has("y", "2"))) {
		t.Errorf("Parse shares parameters: %v", other)
	}
}

// R4: what is handed in is left as it is, the spare room behind it too.
func TestArgumentsStay(t *testing.T) {
	params := []api.Param{has("X", "1"), has("Y", "2"), has("spare", "room")}
	m := api.Media{Type: "A", Sub: "B", Params: params[:2]}
	l := []api.Range{liked(m, 1), liked(media("*", "*"), 2), liked(media("spare", "room"), 3)}
	offers := []api.Media{m, media("C", "D"), media("spare", "room")}
	words := []api.Weight{word("DE", 1), word("*", 2), word("spare", 3)}
	names := []string{"DE-AT", "GZIP", "spare"}
	accept.Print(m)
	accept.Print(media("a", "b", params[:2]...))
	accept.Meets(m, m)
	accept.Liking(l[:2], m)
	accept.Choose(l[:2], offers[:2])
	accept.ChooseCoding(words[:2], true, names[:2])
	accept.ChooseLanguage(words[:2], names[:2])
	whole := []api.Param{has("X", "1"), has("Y", "2"), has("spare", "room")}
	wantM := media("A", "B", whole[:2]...)
	if !slices.Equal(params, whole) || !slices.EqualFunc(offers, []api.Media{wantM, media("C", "D"), media("spare", "room")}, sameMedia) {
		t.Error("media types were changed:", params, offers)
	}
	if !slices.EqualFunc(l, []api.Range{liked(wantM, 1), liked(media("*", "*"), 2), liked(media("spare", "room"), 3)}, sameRange) {
		t.Error("ranges were changed:", l)
	}
	if !slices.Equal(words, []api.Weight{word("DE", 1), word("*", 2), word("spare", 3)}) || !slices.Equal(names, []string{"DE-AT", "GZIP", "spare"}) {
		t.Error("words were changed:", words, names)
	}
}

// R1: long inputs are read like short ones.
func TestLong(t *testing.T) {
	const n = 100000
	if m, err := accept.Parse("a/b" + strings.Repeat(";c=d", n)); len(m.Params) != n || err != api.OK {
		t.Error("Parse of many parameters:", len(m.Params), err)
	}
	if _, err := accept.Parse("a/b" + strings.Repeat(";c=d", n) + ";c"); err != api.ErrMedia {
		t.Error("Parse of many parameters, the last without a value:", err)
	}
	l, err := accept.Ranges(strings.Repeat("a/b;q=0.5,", n) + "c/d")
	if len(l) != n+1 || err != api.OK {
		t.Fatal("Ranges of many:", len(l), err)
	}
	if at := accept.Choose(l, []api.Media{media("e", "f"), media("a", "b"), media("c", "d")}); at != 2 {
		t.Error("Choose by many ranges:", at)
	}
	words, err := accept.Weights(strings.Repeat("a;q=0.5,", n) + "b")
	if len(words) != n+1 || err != api.OK {
		t.Fatal("Weights of many:", len(words), err)
	}
	if at := accept.ChooseCoding(words, true, []string{"identity", "a", "b"}); at != 2 {
		t.Error("ChooseCoding by many words:", at)
	}
	long := "b" + strings.Repeat("-x", n)
	if at := accept.ChooseLanguage(words, []string{"c", "a" + long[1:], long}); at != 2 {
		t.Error("ChooseLanguage by many words:", at)
	}
	if q, err := accept.Quality("0." + strings.Repeat("0", n)); q != 0 || err != api.ErrQuality {
		t.Error("Quality of many digits:", q, err)
	}
	if _, err := accept.Weights(strings.Repeat("\"", n+1)); err != api.ErrList {
		t.Error("Weights of many quotes:", err)
	}
}
