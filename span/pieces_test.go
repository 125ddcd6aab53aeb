package span_test

import (
	"slices"
	"strings"
	"testing"

	"turnpike/api"
	"turnpike/span"
)

// Two parts, the second one of a size that is not told; | stands for a line end.
const twoParts = "|--b|Content-Type: a/b|Content-Range: bytes 1-2/5||el|--b|Content-Type: |Content-Range: bytes 0-0/*||h|--b--|"

func checkPieces(t *testing.T, s string, want []api.Piece, wantAt int, wantErr api.Errno) {
	t.Helper()
	if l, at, err := span.Pieces("b", s); !slices.Equal(l, want) || at != wantAt || err != wantErr {
		t.Errorf("Pieces(%q): %v, %d, %d; want %v, %d, %d", s, l, at, err, want, wantAt, wantErr)
	}
}

// 9.8: the parts, with their media types, spans, sizes and bytes.
func TestPieces(t *testing.T) {
	checkPieces(t, lines(twoParts), []api.Piece{
		{Media: "a/b", Span: api.Span{From: 1, To: 3}, Size: 5, Body: "el"},
		{Media: "", Span: api.Span{From: 0, To: 1}, Size: -1, Body: "h"},
	}, 0, api.OK)
	// So many bytes are taken as the span says, whatever they are; sizes may be unlike; blanks and high bytes of a media type stay.
	checkPieces(t, lines("|--b|Content-Type:  a\t\xff |Content-Range: bytes 7-15/16|||--b--||--b|Content-Type: |Content-Range: bytes 0-0/1||\x00|--b--|"), []api.Piece{
		{Media: " a\t\xff ", Span: api.Span{From: 7, To: 16}, Size: 16, Body: "\r\n--b--\r\n"},
		{Media: "", Span: api.Span{From: 0, To: 1}, Size: 1, Body: "\x00"},
	}, 0, api.OK)
}

// 9.8: each beginning of what is right is short, at its length.
func TestPiecesShort(t *testing.T) {
	s := lines(twoParts)
	for n := range len(s) {
		checkPieces(t, s[:n], nil, n, api.ErrShort)
	}
	for _, cut := range []string{
		"|--b|Content-Type: ", "|--b|Content-Type: \r", "|--b|Content-Type: any bytes\xff of\tfields", "|--b|Content-Type: any\r",
		// Told is not asked of a line that has not ended.
		"|--b|Content-Type: a|Content-Range: ", "|--b|Content-Type: a|Content-Range: \r", "|--b|Content-Type: a|Content-Range: no range", "|--b|Content-Type: a|Content-Range: no range\r",
		"|--b|Content-Type: a|Content-Range: bytes 0-4611686018427387904/*||abc",
	} {
		s := lines(cut)
		checkPieces(t, s, nil, len(s), api.ErrShort)
	}
}

// 9.8: marks that are not there are told at the line end ahead of them, and what stands behind all at its first byte.
func TestPiecesMark(t *testing.T) {
	part := "|--b|Content-Type: a|Content-Range: bytes 0-1/5||he"
	for _, mark := range []string{"x", "\n", "\rx", "\r\r", "--b|", "|x", "|-x", "|--x", "|--x|", "|--B|", "|--bb|", "|--b ", "|--b \r\n", "|--b\r ", "|--b\n", "|--b\rx"} {
		checkPieces(t, lines(mark), nil, 0, api.ErrMark)
		checkPieces(t, lines(part+mark), nil, len(lines(part)), api.ErrMark)
	}
	// The last mark comes behind one part or more.
	checkPieces(t, lines("|--b--|"), nil, 0, api.ErrMark)
	checkPieces(t, lines("|--b-"), nil, 0, api.ErrMark)
	for _, mark := range []string{"|--b-x", "|--b-\r", "|--b--x", "|--b-- |", "|--b--\n", "|--b--\rx", "|--b---|"} {
		checkPieces(t, lines(part+mark), nil, len(lines(part)), api.ErrMark)
	}
	for _, behind := range []string{"x", "|", "\r", "|--b|", part, "\x00", " "} {
		checkPieces(t, lines(part+"|--b--|"+behind), nil, len(lines(part+"|--b--|")), api.ErrMark)
	}
	// Bytes that are too many are told where the line end must stand.
	checkPieces(t, lines(part+"l|--b--|"), nil, len(lines(part)), api.ErrMark)
}

// 9.8: a line that is not as it must be is told at its first byte.
func TestPiecesPiece(t *testing.T) {
	const mark, media, extent = "|--b|", "Content-Type: a|", "Content-Range: bytes 0-1/5|"
	for _, line := range []string{"x", "|", "\r", "\n", "content-type: a|", "Content-Type:a|", "Content-Type:\r", "Content-Type:|", "Content-Ty\r", "Content-Typ3", "Content-Type:\ta|", "Content-Type: a\n", "Content-Type: a\rb", "Content-Type: a\r\r", "Content-Type: a\x00", "Content-Type: a\x7f|", "Content-Type: \r\r\n", " Content-Type: a|", extent} {
		checkPieces(t, lines(mark+line), nil, len(lines(mark)), api.ErrPiece)
	}
	for _, line := range []string{
		"x", "|", "\r", "content-range: bytes 0-1/5|", "Content-Range:bytes 0-1/5|", "Content-Range:\r", "Content-Range: |", "Content-Range: no range|", "Content-Range: bytes */5|", "Content-Range: bytes 1-0/5|", "Content-Range: bytes 0-5/5|",
		"Content-Range: bytes 0-1/5 |", "Content-Range:  bytes 0-1/5|", "Content-Range: bytes 00-1/5|", "Content-Range: bytes 0-1/5\n", "Content-Range: bytes 0-1/5\x00", "Content-Range: bytes 0-1/5\rx", media, "Content-Range: bytes 0-4611686018427387905/*|",
	} {
		checkPieces(t, lines(mark+media+line), nil, len(lines(mark+media)), api.ErrPiece)
	}
	for _, line := range []string{"x", " |", "\n", "\rx", "\r\r", media, "he"} {
		checkPieces(t, lines(mark+media+extent+line), nil, len(lines(mark+media+extent)), api.ErrPiece)
	}
	// Behind a part it is the same.
	first := mark + media + extent + "|he" + mark
	checkPieces(t, lines(first+"x"), nil, len(lines(first)), api.ErrPiece)
	checkPieces(t, lines(first+media+"x"), nil, len(lines(first+media)), api.ErrPiece)
	checkPieces(t, lines(first+media+extent+"x"), nil, len(lines(first+media+extent)), api.ErrPiece)
}

func comparePieces(t *testing.T, boundary, s string, seen map[api.Errno]int) {
	t.Helper()
	l, at, err := span.Pieces(boundary, s)
	if want, wantAt, wantErr := modelPieces(boundary, s); !slices.Equal(l, want) || at != wantAt || err != wantErr {
		t.Fatalf("Pieces(%q, %q): %v, %d, %d; want %v, %d, %d", boundary, s, l, at, err, want, wantAt, wantErr)
	}
	seen[err]++
}

// 9.8, held against patterns: what comes of a right text by one byte, cut anywhere or not.
func TestPiecesEdits(t *testing.T) {
	seen := map[api.Errno]int{}
	s := lines(twoParts)
	for e := range edits(s, allBytes("")) {
		comparePieces(t, "b", e, seen)
	}
	for e := range edits(s, "\r\n-b:1 ") {
		for n := 0; n < len(e); n += 3 {
			comparePieces(t, "b", e[:n], seen)
		}
	}
	for _, err := range []api.Errno{api.OK, api.ErrShort, api.ErrMark, api.ErrPiece} {
		if seen[err] < 500 {
			t.Error("too few of", err, seen)
		}
	}
}

// 9.8, held against patterns: all short rows of what stands in bodies in parts.
func TestPiecesRows(t *testing.T) {
	seen := map[api.Errno]int{}
	for s := range texts([]string{"\r\n--b\r\n", "Content-Type: a\r\n", "Content-Range: bytes 0-1/5\r\n", "Content-Range: bytes 3-3/*\r\n", "\r\n", "\r\n--b--\r\n", "x"}, 6) {
		comparePieces(t, "b", s, seen)
		comparePieces(t, "b", "\r\n--b\r\nContent-Type: \r\n"+s, seen)
	}
	for _, err := range []api.Errno{api.OK, api.ErrShort, api.ErrMark, api.ErrPiece} {
		if seen[err] == 0 {
			t.Error("none of", err, seen)
		}
	}
	for _, boundary := range []string{"-", "--", "b--", "--b", "''", "a/:=?"} {
		s := modelParts(boundary, "m", "\x00\x01\r\n", of(0, 4, 2, 3))
		for n := range len(s) + 1 {
			comparePieces(t, boundary, s[:n], seen)
			comparePieces(t, boundary, s[:n]+"--", seen)
			comparePieces(t, boundary, s[:n]+"\r\n", seen)
			comparePieces(t, "b", s[:n], seen)
		}
	}
	for s := range texts([]string{"\r", "\n", "-", "b"}, 6) {
		comparePieces(t, "b", s, seen)
		comparePieces(t, "b", lines("|--b|Content-Type: a|Content-Range: bytes 0-1/5||he")+s, seen)
	}
}

// R1: long inputs are read like short ones.
func TestPiecesLong(t *testing.T) {
	const n = 100000
	body := strings.Repeat("a\r\n", n)
	s, err := span.Parts("b", strings.Repeat("m", n), body, of(0, 3*n))
	if err != api.OK {
		t.Fatal("Parts:", err)
	}
	if l, at, err := span.Pieces("b", s); len(l) != 1 || l[0].Body != body || len(l[0].Media) != n || at != 0 || err != api.OK {
		t.Error("Pieces of a long part:", len(l), at, err)
	}
	var many []api.Span
	for i := range n {
		many = append(many, api.Span{From: i, To: i + 1})
	}
	s, err = span.Parts("b", "", body, many)
	if err != api.OK {
		t.Fatal("Parts:", err)
	}
	l, at, err := span.Pieces("b", s)
	if len(l) != n || at != 0 || err != api.OK {
		t.Fatal("Pieces of many parts:", len(l), at, err)
	}
	for i, p := range l {
		if p != (api.Piece{Span: many[i], Size: 3 * n, Body: body[i : i+1]}) {
			t.Fatal("Pieces of many parts:", i, p)
		}
	}
	checkPieces(t, lines("|--b|Content-Type: ")+strings.Repeat("a", n), nil, n+21, api.ErrShort)
	checkPieces(t, strings.Repeat("\r", n), nil, 0, api.ErrMark)
	checkPieces(t, strings.Repeat("\r\n", n), nil, 0, api.ErrMark)
}
