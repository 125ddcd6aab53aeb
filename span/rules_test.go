package span_test

import (
	"slices"
	"strings"
	"testing"

	"turnpike/api"
	"turnpike/span"
)

// soil writes over all of a list, its spare room too.
func soil[T any](l []T, with T) {
	l = l[:cap(l)]
	for i := range l {
		l[i] = with
	}
}

// R4: what is written into an answer, its spare room too, shows in no other one and in no argument.
func TestListsAreNew(t *testing.T) {
	const mark = -77
	wrong := api.Span{From: mark, To: mark}
	for n := 1; n < 20; n++ {
		s := "bytes=" + strings.Repeat("1-2,", n)
		l, _ := span.Parse(s, 9)
		other, _ := span.Parse(s, 9)
		soil(l, wrong)
		if !slices.Equal(other, slices.Repeat(of(1, 3), n)) {
			t.Fatal("Parse: lists share memory:", other)
		}
		whole := append(slices.Repeat(of(5, 5, 3, 4, 1, 2), n), of(0, 9)...)
		kept := slices.Clone(whole)
		given := whole[:3*n]
		first, second := span.Merge(given), span.Merge(given)
		soil(first, wrong)
		if !slices.Equal(second, of(1, 2, 3, 4)) || !slices.Equal(whole, kept) {
			t.Fatal("Merge: lists share memory:", second, whole)
		}
		text, _ := span.Parts("b", "m", "0123456789", slices.Repeat(of(2, 4), n))
		p, _, _ := span.Pieces("b", text)
		q, _, _ := span.Pieces("b", text)
		soil(p, api.Piece{Media: "soiled"})
		if !slices.Equal(q, slices.Repeat([]api.Piece{{Media: "m", Span: api.Span{From: 2, To: 4}, Size: 10, Body: "23"}}, n)) {
			t.Fatal("Pieces: lists share memory:", q)
		}
	}
}

// R4: a list that is rising and apart is copied as well.
func TestMergeOfMerged(t *testing.T) {
	l := of(0, 1, 2, 3)
	m := span.Merge(l)
	m[0].To = 7
	if !slices.Equal(l, of(0, 1, 2, 3)) {
		t.Error("Merge shares memory with its argument:", l)
	}
}

// R4: what is handed in is left as it is, the spare room behind it too, and that has no part in the answer.
func TestArgumentsStay(t *testing.T) {
	whole := of(5, 6, 0, 3, 2, 4, 9, 99, 7, 7)
	l := slices.Clone(whole)
	given := l[:3]
	if s, err := span.Print(given, 10); s != "bytes=5-5,0-2,2-3" || err != api.OK {
		t.Error("Print:", s, err)
	}
	if m := span.Merge(given); !slices.Equal(m, of(0, 4, 5, 6)) {
		t.Error("Merge:", m)
	}
	if n := span.Total(given); n != 6 {
		t.Error("Total:", n)
	}
	if s, err := span.Parts("b", "", "0123456789", given); s != modelParts("b", "", "0123456789", given) || err != api.OK {
		t.Error("Parts:", s, err)
	}
	if !slices.Equal(l, whole) {
		t.Error("the list was changed:", l)
	}
}

// R5: what is answered does not hang on what was asked ahead.
func TestCallsAreApart(t *testing.T) {
	for range 3 {
		checkParse(t, "bytes=1-2", 9, of(1, 3), api.OK)
		checkParse(t, "bytes=", 9, nil, api.ErrUnit)
		checkBoundary(t, "--part0", "part1")
		checkBoundary(t, "", "part0")
		checkPieces(t, "x", nil, 0, api.ErrMark)
		checkPieces(t, "\r\n", nil, 2, api.ErrShort)
	}
}
