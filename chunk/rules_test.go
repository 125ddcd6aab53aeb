package chunk_test

import (
	"slices"
	"strings"
	"testing"

	"turnpike/api"
	"turnpike/chunk"
)

// soil writes over all of a list, its spare room too.
func soil[T any](l []T, with T) {
	l = l[:cap(l)]
	for i := range l {
		l[i] = with
	}
}

// R4: what is written into an answer, its spare room too, shows in no other one and in nothing that is kept.
func TestListsAreNew(t *testing.T) {
	wrong := api.Field{Name: "soiled"}
	for n := 1; n < 20; n++ {
		l := slices.Repeat([]api.Field{{Name: "A", Value: "1"}}, n)
		text := "0\r\n" + strings.Repeat("A: 1\r\n", n)
		d := newDecoder(t, 0, 999, n+1)
		checkFeed(t, d, text, len(text), api.OK)
		first, second := d.Trailers(), d.Trailers()
		soil(first, wrong)
		if !slices.Equal(second, l) || !slices.Equal(d.Trailers(), l) {
			t.Fatal("Trailers: lists share memory:", second, d.Trailers())
		}
		kept := d.Trailers()
		checkFeed(t, d, "B: 2\r\n\r\n", 8, api.OK)
		soil(d.Trailers(), wrong)
		if !slices.Equal(kept, l) || !slices.Equal(d.Trailers(), append(l, api.Field{Name: "B", Value: "2"})) {
			t.Fatal("Trailers: what is kept shares memory with an answer:", kept, d.Trailers())
		}
		_, one, _, _ := chunk.Decode(text+"\r\n", 0, 999, n)
		_, other, _, _ := chunk.Decode(text+"\r\n", 0, 999, n)
		soil(one, wrong)
		if !slices.Equal(other, l[:n]) {
			t.Fatal("Decode: lists share memory:", other)
		}
		_, ext, _ := chunk.ParseSize("5" + strings.Repeat(";a", n))
		_, more, _ := chunk.ParseSize("5" + strings.Repeat(";a", n))
		soil(ext, api.Param{Name: "soiled"})
		if !slices.Equal(more, slices.Repeat([]api.Param{{Name: "a"}}, n)) {
			t.Fatal("ParseSize: lists share memory:", more)
		}
	}
}

// R4: a body that was told stays as it was, whatever is taken behind it.
func TestBodyStays(t *testing.T) {
	d := newDecoder(t, 999, 2, 0)
	var told, want []string
	all := ""
	for i := range 100 {
		piece := string([]byte{byte(i), 'x', '\n'})
		checkFeed(t, d, "3\r\n"+piece+"\r\n", 8, api.OK)
		all += piece
		told, want = append(told, d.Body()), append(want, all)
	}
	if !slices.Equal(told, want) {
		t.Error("Body:", told)
	}
}

// R4: what is handed in is left as it is, the spare room behind it too, and that has no part in the answer.
func TestArgumentsStay(t *testing.T) {
	sizes := []int{3, 9, 1, 0, -1}
	trailers := []api.Field{{Name: "B", Value: "2"}, {Name: "A"}, {Name: "Host"}, {}}
	ext := []api.Param{{Name: "b", Value: "c d", Has: true}, {Name: "A"}, {Name: "no token"}}
	keptSizes, keptTrailers, keptExt := slices.Clone(sizes), slices.Clone(trailers), slices.Clone(ext)
	checkEncode(t, "abcde", sizes[:2], trailers[:2], lines("3|abc|2|de|0|B: 2|A:||"), api.OK)
	checkPrintSize(t, 1, ext[:2], `1; b="c d"; A`, api.OK)
	checkEncode(t, "abcde", sizes, trailers, "", api.ErrArg)
	checkEncode(t, "abcde", nil, trailers, "", api.ErrTrailer)
	checkPrintSize(t, 1, ext, "", api.ErrParam)
	if !slices.Equal(sizes, keptSizes) || !slices.Equal(trailers, keptTrailers) || !slices.Equal(ext, keptExt) {
		t.Error("a list was changed:", sizes, trailers, ext)
	}
}

// R5: decoders know nothing of one another.
func TestDecodersAreApart(t *testing.T) {
	first, second, third := "2\r\nab\r\n1\r\nc\r\n0\r\nA: 1\r\n\r\n", "3;x\r\nxyz\r\n0\r\nB: 2\r\nC:\r\n\r\n", "1\r\nq\r\n2\r\nrs\rt"
	a, b, c := newDecoder(t, 3, 99, 9), newDecoder(t, 4, 50, 2), newDecoder(t, 5, 9, 0)
	for i := range max(len(first), len(second), len(third)) {
		for _, p := range []struct {
			d    *chunk.Decoder
			text string
		}{{a, first}, {b, second}, {c, third}} {
			if i < len(p.text) {
				p.d.Feed(p.text[i : i+1])
			}
		}
	}
	checkTold(t, a, modelDecode(first, 3, 99, 9))
	checkTold(t, b, modelDecode(second, 4, 50, 2))
	checkTold(t, c, modelDecode(third, 5, 9, 0))
}

// R5: what is answered does not hang on what was asked ahead.
func TestCallsAreApart(t *testing.T) {
	for range 3 {
		checkDecode(t, "1\r\na\r\n0\r\nA: 1\r\n\r\n", 1, 99, 1, "a", []api.Field{{Name: "A", Value: "1"}}, 17, api.OK)
		checkDecode(t, "1\r\n", 1, 99, 1, "", nil, 3, api.ErrOpen)
		checkDecode(t, "1\n", 1, 99, 1, "", nil, 1, api.ErrChunk)
		checkParseSize(t, "5;a", 5, []api.Param{{Name: "a"}}, api.OK)
		checkParseSize(t, "x", 0, nil, api.ErrChunk)
		checkEncode(t, "a", nil, nil, "1\r\na\r\n0\r\n\r\n", api.OK)
	}
}
