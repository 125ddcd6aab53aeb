package chunk_test

import (
	"math"
	"slices"
	"strings"
	"testing"

	"turnpike/api"
	"turnpike/chunk"
)

func checkDecode(t *testing.T, s string, most, room, fields int, want string, wantTrailers []api.Field, wantN int, wantErr api.Errno) {
	t.Helper()
	body, trailers, n, err := chunk.Decode(s, most, room, fields)
	if body != want || !slices.Equal(trailers, wantTrailers) || n != wantN || err != wantErr {
		t.Errorf("Decode(%.300q, %d, %d, %d): %.60q, %v, %d, %d; want %.60q, %v, %d, %d", s, most, room, fields, body, trailers, n, err, want, wantTrailers, wantN, wantErr)
	}
}

func newDecoder(t *testing.T, most, room, fields int) *chunk.Decoder {
	t.Helper()
	d, err := chunk.New(most, room, fields)
	if d == nil || err != api.OK {
		t.Fatalf("New(%d, %d, %d): %v, %d", most, room, fields, d, err)
	}
	return d
}

// told is what a decoder tells now.
func told(d *chunk.Decoder) outcome {
	return outcome{d.Total(), d.Err(), d.Done(), d.Body(), d.Trailers()}
}

func checkTold(t *testing.T, d *chunk.Decoder, want outcome) {
	t.Helper()
	for range 2 { // being asked changes nothing
		if got := told(d); !got.equal(want) {
			t.Errorf("the decoder tells %v; want %v", got, want)
		}
	}
}

func checkFeed(t *testing.T, d *chunk.Decoder, s string, want int, wantErr api.Errno) {
	t.Helper()
	if n, err := d.Feed(s); n != want || err != wantErr {
		t.Errorf("Feed(%.100q): %d, %d; want %d, %d", s, n, err, want, wantErr)
	}
}

// checkCut feeds pieces, and holds the decoder against the model of what came so far, behind each of them.
func checkCut(t *testing.T, pieces []string, most, room, fields int) {
	t.Helper()
	d := newDecoder(t, most, room, fields)
	all := ""
	for _, p := range pieces {
		before := modelDecode(all, most, room, fields)
		all += p
		after := modelDecode(all, most, room, fields)
		want, wantErr := after.total-before.total, after.err
		if before.done || before.err != api.OK {
			want, wantErr = 0, api.ErrEnded
		}
		n, err := d.Feed(p)
		if got := told(d); n != want || err != wantErr || !got.equal(after) {
			t.Fatalf("Feed(%.100q) of %.300q with %d, %d, %d: %d, %d, %v; want %d, %d, %v", p, pieces, most, room, fields, n, err, got, want, wantErr, after)
		}
	}
}

// checkText holds Decode and Feed of a text against the model, with the text in one piece.
func checkText(t *testing.T, s string, most, room, fields int) {
	t.Helper()
	o := modelDecode(s, most, room, fields)
	switch {
	case o.done:
		checkDecode(t, s, most, room, fields, o.body, o.trailers, o.total, api.OK)
	case o.err != api.OK:
		checkDecode(t, s, most, room, fields, "", nil, o.total-1, o.err)
	default:
		checkDecode(t, s, most, room, fields, "", nil, len(s), api.ErrOpen)
	}
	checkCut(t, []string{s}, most, room, fields)
}

// 10.6, the examples 2 and 3.
func TestDecodeExamples(t *testing.T) {
	checkDecode(t, "3\r\nabc\r\n2\r\nde\r\n0\r\nA: 1\r\n\r\nrest", 9, 99, 9, "abcde", []api.Field{{Name: "A", Value: "1"}}, 26, api.OK)
	for _, c := range []struct {
		s                  string
		most, room, fields int
		place              int
		err                api.Errno
	}{
		{"5\r\nab", 4, 9, 9, 2, api.ErrMuch},
		{"1\r\nab", 9, 9, 9, 4, api.ErrChunk},
		{"1\n", 9, 9, 9, 1, api.ErrChunk},
		{"0\r\nHost: a\r\n\r\n", 9, 99, 9, 11, api.ErrTrailer},
		{"0\r\n\r\n", 0, 1, 0, 4, api.ErrTrailers},
		{"0\r\nA:1\r\n\r\n", 0, 99, 0, 7, api.ErrTrailers},
		{"", 0, 0, 0, 0, api.ErrOpen},
	} {
		checkDecode(t, c.s, c.most, c.room, c.fields, "", nil, c.place, c.err)
	}
}

// 10.3 and 10.4, the example 4.
func TestFeedExamples(t *testing.T) {
	d := newDecoder(t, 9, 9, 9)
	checkFeed(t, d, "2\r", 2, api.OK)
	checkFeed(t, d, "\na", 2, api.OK)
	checkTold(t, d, outcome{total: 4, body: "a"})
	checkFeed(t, d, "b\r\n0\r\n\r\nx", 8, api.OK)
	checkTold(t, d, outcome{total: 12, done: true, body: "ab"})
	checkFeed(t, d, "x", 0, api.ErrEnded)
	checkTold(t, d, outcome{total: 12, done: true, body: "ab"})
}

// 10.2 and 10.6.
func TestNew(t *testing.T) {
	for _, l := range [][3]int{{-1, 0, 0}, {0, -1, 0}, {0, 0, -1}, {-1, -1, -1}, {math.MinInt, 9, 9}, {9, math.MinInt, 9}, {9, 9, math.MinInt}} {
		if d, err := chunk.New(l[0], l[1], l[2]); d != nil || err != api.ErrArg {
			t.Errorf("New(%v): %v, %d", l, d, err)
		}
		checkDecode(t, "0\r\n\r\n", l[0], l[1], l[2], "", nil, 0, api.ErrArg)
		checkDecode(t, "x\n", l[0], l[1], l[2], "", nil, 0, api.ErrArg)
		checkDecode(t, "", l[0], l[1], l[2], "", nil, 0, api.ErrArg)
	}
	for _, l := range [][3]int{{0, 0, 0}, {1, 2, 3}, {math.MaxInt, math.MaxInt, math.MaxInt}} {
		d := newDecoder(t, l[0], l[1], l[2])
		checkTold(t, d, outcome{})
		checkFeed(t, d, "", 0, api.OK)
		checkTold(t, d, outcome{})
	}
}

// 10.5.
func TestNilDecoder(t *testing.T) {
	var d *chunk.Decoder
	for _, s := range []string{"", "0\r\n\r\n", "x\n"} {
		checkFeed(t, d, s, 0, api.ErrEnded)
		checkTold(t, d, outcome{})
	}
}

// R1: a decoder that no call gave is as good as none.
func TestZeroDecoder(t *testing.T) {
	var d chunk.Decoder
	checkFeed(t, &d, "0\r\n\r\n", 0, api.ErrEnded)
	checkTold(t, &d, outcome{})
}

// 10.3: a decoder that is done or has failed takes nothing more, whatever comes.
func TestFeedEnded(t *testing.T) {
	for _, s := range []string{"0\r\n\r\n", "1\r\na\r\n0\r\nA: 1\r\n\r\n", "\n", "x\r\n", "fffffffffff\r\n", "a\r\n", "1\r\na ", "1\r\na\r\r", "0\r\nx\r\n", "0\r\nHost: a\r\n", "0\r\nA:1\r\nB:2\r\n", "0\r\nA:" + strings.Repeat(" ", 15)} {
		d := newDecoder(t, 9, 16, 1)
		o := modelDecode(s, 9, 16, 1)
		if !o.done && o.err == api.OK || o.total != len(s) {
			t.Fatalf("%q is open, or has ended ahead: %v", s, o)
		}
		checkFeed(t, d, s, len(s), o.err)
		for _, more := range []string{"", "0\r\n\r\n", "x", s} {
			checkFeed(t, d, more, 0, api.ErrEnded)
			checkTold(t, d, o)
		}
	}
}

// 10.3: a size line at its limit: the byte with the number 255 ends it, or is the wrong one.
func TestSizeLineInFeed(t *testing.T) {
	pad := strings.Repeat(" ", 253)
	checkDecode(t, "0"+pad+"\r\n\r\n", 0, 2, 0, "", nil, 258, api.OK)
	checkDecode(t, "1"+pad+"\r\na\r\n1"+pad+"\r\nb\r\n0"+pad+"\r\n\r\n", 2, 2, 0, "ab", nil, 776, api.OK)
	checkDecode(t, "0"+pad+" \r\n\r\n", 0, 2, 0, "", nil, 255, api.ErrChunk)
	checkDecode(t, "0"+pad+" \n\r\n", 0, 2, 0, "", nil, 255, api.ErrChunk)
	checkDecode(t, "0"+pad+"\r\r\n", 0, 2, 0, "", nil, 255, api.ErrChunk)
	checkDecode(t, "0"+pad+"\r", 0, 2, 0, "", nil, 255, api.ErrOpen)
	checkDecode(t, strings.Repeat("g", 255), 0, 2, 0, "", nil, 255, api.ErrOpen)
	checkDecode(t, strings.Repeat("g", 256), 0, 2, 0, "", nil, 255, api.ErrChunk)
	checkDecode(t, strings.Repeat("g", 1<<20), 0, 2, 0, "", nil, 255, api.ErrChunk)
	checkDecode(t, "1\r\na\r\n"+strings.Repeat("0", 999), 1, 2, 0, "", nil, 261, api.ErrChunk)
	checkDecode(t, strings.Repeat("f", 254)+"\r\n", 0, 2, 0, "", nil, 255, api.ErrMuch)
	checkDecode(t, strings.Repeat("f", 255)+"\n", 0, 2, 0, "", nil, 255, api.ErrChunk)
}

// 10.3: the limits of the body, at and one past them, in one chunk and over several.
func TestMost(t *testing.T) {
	for most := range 12 {
		for size := range 12 {
			body := "0123456789ab"[:size]
			for sizes := range lists([]int{1, 2, 5}, 3) {
				checkText(t, modelEncode(body, sizes, nil), most, 2, 0)
			}
		}
	}
	for _, most := range []int{0, 1, maxChunk - 1, maxChunk, maxChunk + 1, math.MaxInt} {
		for _, size := range []string{"1", "ffffffffff", "10000000000", "10000000001", "7fffffffffffffff", "8000000000000000", "ffffffffffffffff", "10000000000000000"} {
			checkText(t, size+"\r\nabc", most, 9, 9)
			checkText(t, "1\r\na\r\n"+size+"\r\nbc", most, 9, 9)
		}
		checkText(t, "0\r\n\r\n", most, 2, 0)
	}
	// What is wrong with a line comes ahead of its size.
	checkDecode(t, "fffffffffff\n", 0, 9, 9, "", nil, 11, api.ErrChunk)
	checkDecode(t, "fffffffffff x\r\n", 0, 9, 9, "", nil, 14, api.ErrChunk)
	checkDecode(t, "5 x\r\n", 0, 9, 9, "", nil, 4, api.ErrChunk)
}

// 10.3: the limits of the trailer section, at and one past them.
func TestRoomAndFields(t *testing.T) {
	for _, section := range []string{"|", "A: 1||", "A:1|B:2||", "A:1|b: |A:1||", "A: 1|Host: a||", "A: 1\nB: 2||", "A: 1|B||", " A: 1||", "\n", "A:1|\n", "A\r\r|", "\r\r\n|", "A: 1|B: 2|x"} {
		s := lines("1|z|0|" + section)
		for room := range len(section) + 9 {
			for fields := range 5 {
				checkText(t, s, 1, room, fields)
				checkText(t, s+"\r\n", 1, room, fields)
			}
		}
	}
	checkDecode(t, "0\r\n\r\n", 0, 0, 0, "", nil, 3, api.ErrTrailers)
	checkDecode(t, "0\r\n\r\n", 0, 2, 0, "", nil, 5, api.OK)
	checkDecode(t, "0\r\n\r\n", 0, math.MaxInt, math.MaxInt, "", nil, 5, api.OK)
	// The room is met ahead of what the line says, and the number of trailers ahead of what is wrong with one.
	checkDecode(t, "0\r\nA\n", 0, 1, 9, "", nil, 4, api.ErrTrailers)
	checkDecode(t, "0\r\nA\n", 0, 1, 0, "", nil, 4, api.ErrTrailers)
	checkDecode(t, "0\r\nA\n", 0, 2, 0, "", nil, 4, api.ErrTrailer)
	checkDecode(t, "0\r\nA\r\n", 0, 3, 0, "", nil, 5, api.ErrTrailers)
	checkDecode(t, "0\r\nA\r\n", 0, 3, 1, "", nil, 5, api.ErrTrailer)
	checkDecode(t, "0\r\nA\r\n", 0, 2, 1, "", nil, 5, api.ErrTrailers)
}

// 10.3: the limits of a trailer's name and value, and its names.
func TestTrailers(t *testing.T) {
	name, value := strings.Repeat("n", 128), strings.Repeat("v", 8192)
	for _, line := range []string{name + ":" + value, name + "n:" + value, name + ":" + value + "v", name + ": \t" + value + "  ", "A:", "A: \t ", ":", ": 1", "A : 1", "\tA: 1", "A: 1\x00", "A: \xff", "A: b\rc"} {
		checkText(t, "0\r\n"+line+"\r\n\r\n", 0, 9999, 9)
		checkText(t, "0\r\nB: 2\r\n"+line+"\r\n\r\n", 0, 9999, 9)
	}
	for _, name := range []string{"Connection", "Content-Encoding", "Content-Length", "Content-Range", "Content-Type", "Expect", "Host", "Keep-Alive", "TE", "Trailer", "Transfer-Encoding", "Upgrade"} {
		for _, n := range []string{name, strings.ToLower(name), strings.ToUpper(name)} {
			s := "0\r\nA: 1\r\n" + n + ": x\r\n"
			checkDecode(t, s+"\r\n", 0, 99, 9, "", nil, len(s)-1, api.ErrTrailer)
			checkText(t, "0\r\n"+n+"x: y\r\n\r\n", 0, 99, 9)
		}
	}
	checkDecode(t, "0\r\nA: 1\r\nb:\r\nA: 2 \r\n\r\n", 0, 99, 3, "", []api.Field{{Name: "A", Value: "1"}, {Name: "b"}, {Name: "A", Value: "2"}}, 22, api.OK)
}

// 10.4: what was taken ahead of a fault stays told, but Decode tells nothing of it.
func TestToldOfFailed(t *testing.T) {
	d := newDecoder(t, 9, 99, 9)
	checkFeed(t, d, "2;x\r\nab\r\n1\r\nc\r\n0\r\nA: 1\r\nB: 2\r\nHost: h\r\nC: 3\r\n", 39, api.ErrTrailer)
	checkTold(t, d, outcome{total: 39, err: api.ErrTrailer, body: "abc", trailers: []api.Field{{Name: "A", Value: "1"}, {Name: "B", Value: "2"}}})
	d = newDecoder(t, 3, 99, 9)
	checkFeed(t, d, "2\r\nab\r\n2\r\ncd", 10, api.ErrMuch)
	checkTold(t, d, outcome{total: 10, err: api.ErrMuch, body: "ab"})
	d = newDecoder(t, 3, 99, 9)
	checkFeed(t, d, "2\r\nab\nx", 6, api.ErrChunk)
	checkTold(t, d, outcome{total: 6, err: api.ErrChunk, body: "ab"})
}

// 10.3 and 10.6, held against the model over all short texts.
func TestDecodeAll(t *testing.T) {
	for s := range texts([]string{"0", "1", "2", "\r", "\n", "\r\n", ";", "a", ":"}, 6) {
		checkText(t, s, 2, 6, 1)
	}
	for s := range texts([]string{"1\r\n", "x", "\r\n", "\r", "\n", "0\r\n", "2;q\r\n"}, 6) {
		checkText(t, s, 3, 4, 0)
	}
	for s := range texts([]string{"A", ":", " ", "\r", "\n", "\r\n", "te"}, 6) {
		checkText(t, "0\r\n"+s, 0, 8, 1)
	}
}

// 10.3 and 10.8, over each change of one byte in a whole body in chunks.
func TestDecodeEdits(t *testing.T) {
	whole := "3;a=\"b\"\r\nxyz\r\n00b \r\nhello\r\n0\r\n!\r\n0\r\nA: 1\r\nEtag:\r\n\r\nmore"
	checkText(t, whole, 14, 16, 2)
	for s := range edits(whole, everyByte()) {
		checkText(t, s, 14, 16, 2)
	}
	for s := range edits(whole, "\r\n 0;") {
		checkText(t, s, 15, 99, 9)
		checkText(t, s, 13, 15, 2)
		checkCut(t, strings.Split(s, ""), 14, 16, 2)
	}
}

// 10.8: every cut into three pieces, empty ones too, many into four, and byte by byte.
func TestCuts(t *testing.T) {
	for _, s := range []string{"2\r\nab\r\n1;x\r\nc\r\n0\r\nA: 1\r\n\r\nmore", "1\r\na\r\n2\r\nbc\rx", "3\r\nabc\r\n4\r\n", "1\r\na\r\n0\r\nA: 1\r\nA: 2\r\nA: 3\r\n", "0\r\nA: 1\r\nHost: x\r\n", "1\r\na\r\n\n", "0\r\nA: 123456789012345"} {
		for i := range len(s) + 1 {
			for j := i; j <= len(s); j++ {
				for k := j; k <= len(s); k += 3 {
					checkCut(t, []string{s[:i], s[i:j], s[j:k], s[k:]}, 6, 16, 2)
				}
			}
		}
		checkCut(t, strings.Split(s, ""), 6, 16, 2)
	}
	long := strings.Repeat("0", 253) + "2\r\nab\r\n" + strings.Repeat("0", 300)
	checkCut(t, strings.Split(long, ""), 9, 9, 9)
	for i := range len(long) {
		checkCut(t, []string{long[:i], long[i:]}, 9, 9, 9)
	}
}

// R1: long bodies, lines and rows, in one piece and byte by byte.
func TestDecodeLong(t *testing.T) {
	const n = 1 << 20
	body := strings.Repeat("0123456789abcde\n", n/16)
	s := "100000\r\n" + body + "\r\n0\r\n\r\n"
	d := newDecoder(t, n, 2, 0)
	for i := range len(s) {
		if k, err := d.Feed(s[i : i+1]); k != 1 || err != api.OK {
			t.Fatal("Feed:", i, k, err)
		}
	}
	checkTold(t, d, outcome{total: len(s), done: true, body: body})
	checkDecode(t, s, n-1, 2, 0, "", nil, 7, api.ErrMuch)
	value := strings.Repeat(" ", n)
	checkDecode(t, "0\r\nA:"+value+"\r\n\r\n", 0, n+6, 1, "", []api.Field{{Name: "A"}}, n+9, api.OK)
	checkDecode(t, "0\r\nA:"+value+"\r\n\r\n", 0, n+5, 1, "", nil, n+8, api.ErrTrailers)
	many := 50000
	l := slices.Repeat([]api.Field{{Name: "A", Value: "1"}}, many)
	s = "0\r\n" + strings.Repeat("A: 1\r\n", many) + "\r\n"
	checkDecode(t, s, 0, len(s), many, "", l, len(s), api.OK)
	checkDecode(t, s, 0, len(s), many-1, "", nil, len(s)-3, api.ErrTrailers)
}

// R1: a size alone, the greatest even, makes no room.
func TestGreatSizeCostsNothing(t *testing.T) {
	l := make([]*chunk.Decoder, 1000)
	for i := range l {
		l[i] = newDecoder(t, math.MaxInt, 9, 9)
		checkFeed(t, l[i], "10000000000\r\nab", 15, api.OK)
		checkTold(t, l[i], outcome{total: 15, body: "ab"})
	}
}
