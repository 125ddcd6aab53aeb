package chunk_test

import (
	"math"
	"slices"
	"strings"
	"testing"

	"turnpike/api"
	"turnpike/chunk"
)

func checkEncode(t *testing.T, body string, sizes []int, trailers []api.Field, want string, wantErr api.Errno) {
	t.Helper()
	if s, err := chunk.Encode(body, sizes, trailers); s != want || err != wantErr {
		t.Errorf("Encode(%.60q, %v, %.200v): %.300q, %d; want %.300q, %d", body, sizes, trailers, s, err, want, wantErr)
	}
}

// 10.7, the example 2.
func TestEncodeExamples(t *testing.T) {
	checkEncode(t, "abcde", []int{3}, []api.Field{{Name: "A", Value: "1"}}, "3\r\nabc\r\n2\r\nde\r\n0\r\nA: 1\r\n\r\n", api.OK)
}

// 10.7: sizes that fit, that are too many, too few, too great.
func TestEncode(t *testing.T) {
	for _, c := range []struct {
		body  string
		sizes []int
		want  string
	}{
		{"", nil, "0||"},
		{"", []int{}, "0||"},
		{"", []int{1, 2}, "0||"},
		{"a", nil, "1|a|0||"},
		{"abcde", nil, "5|abcde|0||"},
		{"abcde", []int{5}, "5|abcde|0||"},
		{"abcde", []int{2, 3}, "2|ab|3|cde|0||"},
		{"abcde", []int{2, 3, 1, 1}, "2|ab|3|cde|0||"},
		{"abcde", []int{2, 9}, "2|ab|3|cde|0||"},
		{"abcde", []int{6, 1}, "5|abcde|0||"},
		{"abcde", []int{math.MaxInt, math.MaxInt}, "5|abcde|0||"},
		{"abcde", []int{1, 1}, "1|a|1|b|3|cde|0||"},
		{"abcde", []int{1, 1, 1, 1, 1}, "1|a|1|b|1|c|1|d|1|e|0||"},
		{"0123456789abcdef", nil, "10|0123456789abcdef|0||"},
		{"0123456789abcdef", []int{10, 5}, "a|0123456789|5|abcde|1|f|0||"},
		{"\r\n0\r\n\r\n", []int{2, 2}, "2|||2|0\r|3|\n||0||"},
		{"\x00\xff", nil, "2|\x00\xff|0||"},
	} {
		checkEncode(t, c.body, c.sizes, nil, lines(c.want), api.OK)
	}
	checkEncode(t, "", nil, []api.Field{{Name: "B"}, {Name: "a", Value: "x  y"}, {Name: "B", Value: "\xff"}}, lines("0|B:|a: x  y|B: \xff||"), api.OK)
	checkEncode(t, "z", nil, []api.Field{{Name: strings.Repeat("n", 128), Value: strings.Repeat("v", 8192)}}, lines("1|z|0|"+strings.Repeat("n", 128)+": "+strings.Repeat("v", 8192)+"||"), api.OK)
	many := slices.Repeat([]api.Field{{Name: "A", Value: "1"}}, 1000) // no limit is told
	checkEncode(t, "", nil, many, lines("0|"+strings.Repeat("A: 1|", 1000)+"|"), api.OK)
}

// 10.7: wrong sizes count, also behind the body's end, and ahead of wrong trailers.
func TestEncodeWrong(t *testing.T) {
	right := api.Field{Name: "A", Value: "1"}
	wrong := []api.Field{
		{}, {Value: "1"}, {Name: "A b"}, {Name: "A:"}, {Name: strings.Repeat("n", 129)},
		{Name: "A", Value: " 1"}, {Name: "A", Value: "1\t"}, {Name: "A", Value: "1\r\nB: 2"}, {Name: "A", Value: "\x7f"}, {Name: "A", Value: strings.Repeat("v", 8193)},
		{Name: "Connection", Value: "1"}, {Name: "content-encoding", Value: "1"}, {Name: "CONTENT-LENGTH", Value: "1"}, {Name: "Content-Range"}, {Name: "Content-Type"}, {Name: "eXPECT"},
		{Name: "Host", Value: "a"}, {Name: "Keep-Alive"}, {Name: "te"}, {Name: "Trailer"}, {Name: "Transfer-Encoding"}, {Name: "Upgrade"},
	}
	for _, f := range wrong {
		for _, l := range [][]api.Field{{f}, {right, f}, {f, right}} {
			checkEncode(t, "abc", []int{1}, l, "", api.ErrTrailer)
			checkEncode(t, "", nil, l, "", api.ErrTrailer)
			checkEncode(t, "abc", []int{0}, l, "", api.ErrArg)
		}
	}
	for _, sizes := range [][]int{{0}, {-1}, {math.MinInt}, {1, 0}, {0, 1}, {3, 0}, {9, 9, -1}} {
		checkEncode(t, "abc", sizes, nil, "", api.ErrArg)
		checkEncode(t, "", sizes, []api.Field{right}, "", api.ErrArg)
	}
}

// 10.7 and 10.8, over bodies, sizes and trailers: there, back with whatever behind it, and all proper beginnings.
func TestEncodeThereAndBack(t *testing.T) {
	fields := []api.Field{{Name: "A", Value: "1"}, {Name: "b"}, {Name: "Etag", Value: `"x:, y"`}}
	for _, body := range []string{"", "a", "abcde", "\r\n0\r\n\r\n", "0123456789abcdefghi", strings.Repeat("\n", 300)} {
		for sizes := range lists([]int{1, 2, 7, 16, 400}, 3) {
			for trailers := range lists(fields, 2) {
				s := modelEncode(body, sizes, trailers)
				checkEncode(t, body, sizes, trailers, s, api.OK)
				room := len(s)
				for _, behind := range []string{"", "\r\n", "0\r\n\r\n", "A: 1\r\n\r\n", "\x00"} {
					checkDecode(t, s+behind, len(body), room, len(trailers), body, trailers, len(s), api.OK)
				}
				if len(sizes) < 2 {
					for n := range len(s) {
						checkDecode(t, s[:n], len(body), room, len(trailers), "", nil, n, api.ErrOpen)
					}
				}
			}
		}
	}
}

// 10.7 and R1: long bodies and long lists.
func TestEncodeLong(t *testing.T) {
	const n = 300000
	body := strings.Repeat("x", n)
	ones := slices.Repeat([]int{1}, n+9)
	s, err := chunk.Encode(body, ones, nil)
	if want := strings.Repeat("1\r\nx\r\n", n) + "0\r\n\r\n"; s != want || err != api.OK {
		t.Error("Encode of many chunks:", len(s), err)
	}
	checkDecode(t, s, n, 2, 0, body, nil, len(s), api.OK)
	s, err = chunk.Encode(body, nil, nil)
	if want := "493e0\r\n" + body + "\r\n0\r\n\r\n"; s != want || err != api.OK {
		t.Error("Encode of one chunk:", len(s), err)
	}
	checkDecode(t, s, n, 2, 0, body, nil, len(s), api.OK)
}
