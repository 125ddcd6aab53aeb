package span_test

import (
	"math"
	"strconv"
	"strings"
	"testing"

	"turnpike/api"
	"turnpike/span"
)

func checkBoundary(t *testing.T, body, want string) {
	t.Helper()
	if got := span.Boundary(body); got != want {
		t.Errorf("Boundary(%.60q): %q; want %q", body, got, want)
	}
}

// 9.6, the example 4.
func TestBoundaryExamples(t *testing.T) { checkBoundary(t, "a--part0b", "part1") }

// 9.6.
func TestBoundary(t *testing.T) {
	for body, want := range map[string]string{
		"": "part0", "hello": "part0", "--part": "part0", "part0": "part0", "-part0": "part0", "--Part0": "part0", "--part 0": "part0", "--part1": "part0", "--parta0": "part0",
		"--part0": "part1", "---part0": "part1", "--part0--part0": "part1", "--part00": "part1", "--part01--part2": "part1", "--part0--part01": "part1",
		"--part1--part0": "part2", "--part0 --part2 --part1": "part3", "--part0--part2": "part1",
		// Where part10 stands, part1 stands, too.
		"--part0--part10": "part2", "--part0--part19999999999999999999999999999999999--part234": "part3", "--part0--part1--part20": "part3",
		// A number that leaves an int is none of the small ones: 2^64, 2^64 and 2, twice 2^64 and 1.
		"--part18446744073709551616": "part0", "--part0--part18446744073709551618": "part2", "--part0--part36893488147419103233": "part1",
		"--part\x00--part0": "part1", "\r\n--part0\r\n--part1--\r\n": "part2", "--par--part0": "part1", "--part--part0": "part1",
	} {
		checkBoundary(t, body, want)
	}
}

// 9.6, held against asking one by one, over all short texts.
func TestBoundaryAll(t *testing.T) {
	for s := range texts([]string{"--part", "0", "1", "2", "3", "-", "p"}, 7) {
		if got, want := span.Boundary(s), modelBoundary(s); got != want {
			t.Fatalf("Boundary(%q): %q; want %q", s, got, want)
		}
	}
	var all strings.Builder
	for n := range 300 {
		checkBoundary(t, all.String(), modelBoundary(all.String()))
		all.WriteString("--part" + strconv.Itoa(n))
	}
	for n := range 300 {
		s := strings.ReplaceAll(all.String()+"-", "--part"+strconv.Itoa(n)+"-", "-")
		checkBoundary(t, s, modelBoundary(s))
	}
}

// 9.6 and R1: a body that has a great many of them.
func TestBoundaryLong(t *testing.T) {
	const n = 200000
	var b strings.Builder
	for i := range n {
		b.WriteString("--part" + strconv.Itoa(n-1-i))
	}
	checkBoundary(t, b.String(), "part"+strconv.Itoa(n))
	checkBoundary(t, strings.Repeat("--part", n)+"0", "part1")
	checkBoundary(t, "--part0--part"+strings.Repeat("1", n), "part2")
	checkBoundary(t, strings.Repeat("-", n), "part0")
}

func checkParts(t *testing.T, boundary, media, body string, l []api.Span, want string, wantErr api.Errno) {
	t.Helper()
	if s, err := span.Parts(boundary, media, body, l); s != want || err != wantErr {
		t.Errorf("Parts(%q, %q, %.60q, %v): %q, %d; want %q, %d", boundary, media, body, l, s, err, want, wantErr)
	}
}

// 9.7, the example 4.
func TestPartsExamples(t *testing.T) {
	checkParts(t, "part0", "a/b", "hello", of(0, 1), "\r\n--part0\r\nContent-Type: a/b\r\nContent-Range: bytes 0-0/5\r\n\r\nh\r\n--part0--\r\n", api.OK)
}

// 9.7: several parts, in the order of the list, overlapping and twice if so asked.
func TestParts(t *testing.T) {
	checkParts(t, "x", "", "0123456789", of(8, 10, 0, 10, 8, 10), lines("|--x|Content-Type: |Content-Range: bytes 8-9/10||89|--x|Content-Type: |Content-Range: bytes 0-9/10||0123456789|--x|Content-Type: |Content-Range: bytes 8-9/10||89|--x--|"), api.OK)
	// Blanks and high bytes of a media type stay; bytes of a body are any.
	checkParts(t, "--", " \ta; b=\"c\xff\" ", "\r\n-\x00", of(0, 4), lines("|----|Content-Type:  \ta; b=\"c\xff\" |Content-Range: bytes 0-3/4||\r\n-\x00|------|"), api.OK)
	// The boundary itself, without -- ahead, may stand in the body.
	checkParts(t, "x", "a", "x-x", of(0, 3), lines("|--x|Content-Type: a|Content-Range: bytes 0-2/3||x-x|--x--|"), api.OK)
	checkParts(t, "X", "a", "--x", of(2, 3), lines("|--X|Content-Type: a|Content-Range: bytes 2-2/3||x|--X--|"), api.OK)
}

// 9.7: which texts are boundaries; byte by byte, and by their length.
func TestPartsBoundary(t *testing.T) {
	const marks = "ABCDEFGHIJKLMNOPQRSTUVWXYZabcdefghijklmnopqrstuvwxyz0123456789'()+_,-./:=?"
	for c := range 256 {
		b := string([]byte{byte(c)})
		for _, boundary := range []string{b, b + "a", "a" + b + "a", "a" + b} {
			wantErr := api.ErrMark
			if strings.Contains(marks, b) {
				wantErr = api.OK
			}
			if _, err := span.Parts(boundary, "a/b", "0", of(0, 1)); err != wantErr {
				t.Errorf("Parts by %q: %d", boundary, err)
			}
			if _, at, err := span.Pieces(boundary, "x"); at != 0 || err != api.ErrMark {
				t.Errorf("Pieces by %q: %d, %d", boundary, at, err)
			}
			_, _, err := span.Pieces(boundary, "")
			if wantErr == api.OK && err != api.ErrShort || wantErr != api.OK && err != api.ErrMark {
				t.Errorf("Pieces by %q: %d", boundary, err)
			}
		}
	}
	long := strings.Repeat("a", 70)
	checkParts(t, long, "m", "0", of(0, 1), modelParts(long, "m", "0", of(0, 1)), api.OK)
	for _, boundary := range []string{"", long + "a", strings.Repeat("a", 100000)} {
		checkParts(t, boundary, "m", "0", of(0, 1), "", api.ErrMark)
		if l, at, err := span.Pieces(boundary, modelParts(boundary, "m", "0", of(0, 1))); len(l) != 0 || at != 0 || err != api.ErrMark {
			t.Errorf("Pieces by %d bytes: %v, %d, %d", len(boundary), l, at, err)
		}
	}
}

// 9.7 and R2: the errors and their order.
func TestPartsWrong(t *testing.T) {
	for _, body := range []string{"--x", "a--xb", "---x", "\r\n--x", "--x--"} {
		checkParts(t, "x", "a", body, of(0, 1), "", api.ErrMark)
		checkParts(t, "x", "\n", body, nil, "", api.ErrMark)
	}
	for _, media := range []string{"\n", "a\r", "\x00", "a\x7fb", "a/b\r\nX: y"} {
		checkParts(t, "x", media, "abc", of(0, 1), "", api.ErrArg)
		checkParts(t, "x", media, "abc", nil, "", api.ErrArg)
		checkParts(t, "x", media, "abc", of(0, 4), "", api.ErrArg)
		checkParts(t, "", media, "abc", nil, "", api.ErrMark)
	}
	for _, l := range [][]api.Span{nil, {}, of(0, 4), of(1, 1), of(2, 1), of(-1, 1), of(0, 1, 3, 3), of(3, 4, 0, 1), of(math.MinInt, math.MaxInt), of(math.MaxInt, math.MinInt)} {
		checkParts(t, "x", "a", "abc", l, "", api.ErrSpan)
		checkParts(t, "x", "a", "", l, "", api.ErrSpan)
	}
}

// 9.7: each byte in a media type.
func TestPartsMedia(t *testing.T) {
	for c := range 256 {
		media := "a" + string([]byte{byte(c)}) + "b"
		if c == '\t' || c >= ' ' && c != 127 {
			checkParts(t, "x", media, "abc", of(1, 2), modelParts("x", media, "abc", of(1, 2)), api.OK)
		} else {
			checkParts(t, "x", media, "abc", of(1, 2), "", api.ErrArg)
		}
	}
}

// 9.7 and 9.9, over short lists: Parts is as the words say, Pieces of Parts are the pieces, and the boundary of Boundary will do.
func TestPartsAll(t *testing.T) {
	for _, body := range []string{"a", "\r\n", "0123", "--part0\r\n", "\r\n--part0--\r\n"} {
		var all []api.Span
		for from := range len(body) + 1 {
			for to := range len(body) + 2 {
				all = append(all, api.Span{From: from, To: to})
			}
		}
		for l := range lists(all, 2) {
			b := span.Boundary(body)
			right := len(l) > 0
			for _, x := range l {
				right = right && modelSpan(x, len(body))
			}
			if !right {
				checkParts(t, b, "a/b", body, l, "", api.ErrSpan)
				continue
			}
			s, err := span.Parts(b, "a/b", body, l)
			if s != modelParts(b, "a/b", body, l) || err != api.OK {
				t.Fatalf("Parts(%q, %v): %q, %d", body, l, s, err)
			}
			pieces, at, err := span.Pieces(b, s)
			if len(pieces) != len(l) || at != 0 || err != api.OK {
				t.Fatalf("Pieces(%q): %v, %d, %d", s, pieces, at, err)
			}
			for i, x := range l {
				if pieces[i] != (api.Piece{Media: "a/b", Span: x, Size: len(body), Body: body[x.From:x.To]}) {
					t.Fatalf("Pieces(%q): %v", s, pieces)
				}
			}
		}
	}
}
