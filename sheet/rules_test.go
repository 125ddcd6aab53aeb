package sheet_test

import (
	"slices"
	"strings"
	"testing"

	"turnpike/api"
	"turnpike/sheet"
)

// soil writes over all of a list, its spare room too.
func soil[T any](l []T, with T) {
	l = l[:cap(l)]
	for i := range l {
		l[i] = with
	}
}

// R4: what is written into an answer, its spare room too, shows in no other one.
func TestListsAreNew(t *testing.T) {
	for n := 1; n < 20; n++ {
		pairs := strings.Repeat("a=b&", n)
		l, _, _ := sheet.Pairs(pairs)
		other, _, _ := sheet.Pairs(pairs)
		soil(l, alone("soiled"))
		if !slices.Equal(other, slices.Repeat([]api.Param{pair("a", "b")}, n)) {
			t.Fatal("Pairs: lists share memory:", other)
		}
		disposition := "x"
		for i := range n {
			disposition += ";" + string(rune('a'+i)) + "=1"
		}
		_, l, _ = sheet.Disposition(disposition)
		_, other, _ = sheet.Disposition(disposition)
		soil(l, alone("soiled"))
		if _, want, _ := modelDisposition(disposition); !slices.Equal(other, want) {
			t.Fatal("Disposition: lists share memory:", other)
		}
		body := lines(strings.Repeat("--B|"+fieldA+"|1|", n) + "--B--")
		p, _, _ := sheet.Parse("B", body, n)
		q, _, _ := sheet.Parse("B", body, n)
		soil(p, api.Part{Name: "soiled"})
		if !slices.Equal(q, slices.Repeat([]api.Part{{Name: "a", Body: "1"}}, n)) {
			t.Fatal("Parse: lists share memory:", q)
		}
	}
}

// R4: what is handed in is left as it is, the spare room behind it too, and that has no part in the answer.
func TestArgumentsStay(t *testing.T) {
	pairs := []api.Param{pair("A b", "~"), alone("c"), alone(""), pair("kept", "")}
	keptPairs := slices.Clone(pairs)
	checkPrintPairs(t, pairs[:2], "A+b=%7E&c", api.OK)
	checkPrintPairs(t, pairs, "", api.ErrPair)
	if !slices.Equal(pairs, keptPairs) {
		t.Error("the pairs were changed:", pairs)
	}
	parts := []api.Part{{Name: "A", Body: "--form0"}, {Name: "b", Media: "M"}, {Name: "--form1--B"}, {File: "f"}}
	keptParts := slices.Clone(parts)
	checkBoundary(t, parts[:2], "form1")
	want, _ := modelPrint("B", parts[:2])
	checkPrint(t, "B", parts[:2], want, api.OK)
	checkPrint(t, "B", parts, "", api.ErrBoundary)
	checkPrint(t, "C", parts, "", api.ErrPart)
	if !slices.Equal(parts, keptParts) {
		t.Error("the parts were changed:", parts)
	}
}

// R3: a list that is empty may be nil or of length 0.
func TestEmptyLists(t *testing.T) {
	for _, l := range [][]api.Param{nil, {}, make([]api.Param, 0, 4)} {
		checkPrintPairs(t, l, "", api.OK)
	}
	for _, l := range [][]api.Part{nil, {}, append(make([]api.Part, 0, 4), api.Part{Body: "--form0--B"})[:0]} {
		checkBoundary(t, l, "form0")
		checkPrint(t, "B", l, "", api.ErrParts)
	}
}

// R5: what is answered does not hang on what was asked ahead.
func TestCallsAreApart(t *testing.T) {
	for range 3 {
		checkPairs(t, "a", []api.Param{alone("a")}, 0, api.OK)
		checkPairs(t, "a%", nil, 1, api.ErrPercent)
		checkBoundary(t, in("--form0"), "form1")
		checkBoundary(t, nil, "form0")
		checkDisposition(t, "a;b=c", "a", []api.Param{pair("b", "c")}, api.OK)
		checkDisposition(t, "", "", nil, api.ErrPart)
		checkParse(t, lines("--B|"+fieldB+"|1|--B--"), []api.Part{{Name: "b", File: "f \"x", HasFile: true, Body: "1"}}, 0, api.OK)
		checkParse(t, lines("--B|"+fieldA+"|1|--B--"), []api.Part{{Name: "a", Body: "1"}}, 0, api.OK)
		checkParse(t, "--Bx", nil, 3, api.ErrBoundary)
		checkPrint(t, "B", nil, "", api.ErrParts)
	}
}

// R1 and R2: whatever is handed in, no call panics, and with an error there is nothing beside it but a place.
func TestNoPanic(t *testing.T) {
	for s := range texts([]string{"--", "B", "\r\n", "=", "%", ";", "\"", "\xff", "a:"}, 4) {
		if l, at, err := sheet.Pairs(s); at < 0 || at > len(s) || err != api.OK && len(l) != 0 {
			t.Fatalf("Pairs(%q): %s, %d, %d", s, show(l), at, err)
		}
		if word, l, err := sheet.Disposition(s); err != api.OK && (word != "" || len(l) != 0) {
			t.Fatalf("Disposition(%q): %q, %s, %d", s, word, show(l), err)
		}
		for _, boundary := range []string{s, "B", "-"} {
			if l, at, err := sheet.Parse(boundary, s, len(s)-1); at < 0 || at > len(s) || err != api.OK && len(l) != 0 {
				t.Fatalf("Parse(%q, %q): %s, %d, %d", boundary, s, show(l), at, err)
			}
			for _, p := range []api.Part{{Name: s}, {File: s}, {Media: s, HasFile: true}, {Body: s}} {
				if out, err := sheet.Print(boundary, []api.Part{p}); err != api.OK && out != "" {
					t.Fatalf("Print(%q, %s): %q, %d", boundary, show(p), out, err)
				}
			}
		}
	}
}
