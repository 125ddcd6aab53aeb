package span_test

import (
	"math"
	"strconv"
	"strings"
	"testing"

	"turnpike/api"
	"turnpike/span"
)

func checkTell(t *testing.T, x api.Span, size int, want string, wantErr api.Errno) {
	t.Helper()
	if s, err := span.Tell(x, size); s != want || err != wantErr {
		t.Errorf("Tell(%v, %d): %q, %d; want %q, %d", x, size, s, err, want, wantErr)
	}
}

func checkTold(t *testing.T, s string, x api.Span, size int, wantErr api.Errno) {
	t.Helper()
	if got, n, err := span.Told(s); got != x || n != size || err != wantErr {
		t.Errorf("Told(%q): %v, %d, %d; want %v, %d, %d", s, got, n, err, x, size, wantErr)
	}
}

// 9.4 and 9.5, the example 3.
func TestToldExamples(t *testing.T) {
	checkTell(t, api.Span{From: 0, To: 5}, 10, "bytes 0-4/10", api.OK)
	checkTold(t, "bytes 0-4/*", api.Span{From: 0, To: 5}, -1, api.OK)
	checkTold(t, "bytes */10", api.Span{}, 10, api.OK)
	checkTold(t, "bytes 5-4/10", api.Span{}, 0, api.ErrUnit)
	checkTold(t, "bytes 0-9/9", api.Span{}, 0, api.ErrUnit)
}

// 9.4: Tell of all spans near a body, and of what is none; what it says is told back (9.5).
func TestTell(t *testing.T) {
	for size := -2; size < 13; size++ {
		for from := -2; from < 14; from++ {
			for to := -2; to < 14; to++ {
				x := api.Span{From: from, To: to}
				if !modelSpan(x, size) {
					checkTell(t, x, size, "", api.ErrSpan)
					continue
				}
				s := "bytes " + strconv.Itoa(from) + "-" + strconv.Itoa(to-1) + "/" + strconv.Itoa(size)
				checkTell(t, x, size, s, api.OK)
				checkTold(t, s, x, size, api.OK)
			}
		}
	}
	checkTell(t, api.Span{From: 0, To: math.MaxInt}, math.MaxInt, "bytes 0-9223372036854775806/9223372036854775807", api.OK)
	checkTell(t, api.Span{From: math.MaxInt, To: math.MinInt}, math.MaxInt, "", api.ErrSpan)
	checkTell(t, api.Span{From: math.MinInt, To: math.MaxInt}, math.MinInt, "", api.ErrSpan)
}

// 9.4: TellNone, and what it says is told back (9.5).
func TestTellNone(t *testing.T) {
	for _, size := range []int{0, 1, 9, 10, 12345, top} {
		want := "bytes */" + strconv.Itoa(size)
		if s, err := span.TellNone(size); s != want || err != api.OK {
			t.Errorf("TellNone(%d): %q, %d", size, s, err)
		}
		checkTold(t, want, api.Span{}, size, api.OK)
	}
	if s, err := span.TellNone(math.MaxInt); s != "bytes */9223372036854775807" || err != api.OK {
		t.Errorf("TellNone: %q, %d", s, err)
	}
	for _, size := range []int{-1, -10, math.MinInt} {
		if s, err := span.TellNone(size); s != "" || err != api.ErrArg {
			t.Errorf("TellNone(%d): %q, %d", size, s, err)
		}
	}
}

// 9.5: numbers up to 2^62, and one past it.
func TestToldGreat(t *testing.T) {
	const edge, past = "4611686018427387904", "4611686018427387905"
	checkTold(t, "bytes */"+edge, api.Span{}, top, api.OK)
	checkTold(t, "bytes */"+past, api.Span{}, 0, api.ErrUnit)
	checkTold(t, "bytes 0-4611686018427387903/"+edge, api.Span{From: 0, To: top}, top, api.OK)
	checkTold(t, "bytes 0-0/"+past, api.Span{}, 0, api.ErrUnit)
	checkTold(t, "bytes 0-"+edge+"/"+edge, api.Span{}, 0, api.ErrUnit)
	checkTold(t, "bytes 0-"+edge+"/*", api.Span{From: 0, To: top + 1}, -1, api.OK)
	checkTold(t, "bytes "+edge+"-"+edge+"/*", api.Span{From: top, To: top + 1}, -1, api.OK)
	checkTold(t, "bytes 0-"+past+"/*", api.Span{}, 0, api.ErrUnit)
	checkTold(t, "bytes "+past+"-"+past+"/*", api.Span{}, 0, api.ErrUnit)
	checkTold(t, "bytes 0-0/9223372036854775807", api.Span{}, 0, api.ErrUnit)
	checkTold(t, "bytes 0-0/18446744073709551617", api.Span{}, 0, api.ErrUnit)
	for _, digits := range []string{strings.Repeat("9", 100000), strings.Repeat("0", 100000), "1" + strings.Repeat("0", 100000)} {
		checkTold(t, "bytes */"+digits, api.Span{}, 0, api.ErrUnit)
		checkTold(t, "bytes 0-"+digits+"/*", api.Span{}, 0, api.ErrUnit)
		checkTold(t, "bytes "+digits+"-5/*", api.Span{}, 0, api.ErrUnit)
	}
}

// 9.5: what is none.
func TestToldWrong(t *testing.T) {
	for _, s := range []string{
		"", "bytes", "bytes ", "bytes */*", "bytes *", "bytes /", "bytes */", "bytes /5", "bytes -/5", "bytes 0-/5", "bytes -0/5", "bytes 0/5", "bytes 0-4", "bytes 0-4/", "bytes 0-4/x",
		"Bytes 0-4/10", "BYTES */10", "bytes=0-4/10", "bytes  0-4/10", " bytes 0-4/10", "bytes 0-4/10 ", "bytes 0-4 /10", "bytes 0-4/ 10", "bytes 0 -4/10", "bytes\t0-4/10", "items 0-4/10", "byte 0-4/10",
		"bytes 00-4/10", "bytes 0-04/10", "bytes 0-4/010", "bytes 00-4/*", "bytes 0-04/*", "bytes */010", "bytes */00", "bytes +0-4/10", "bytes 0-+4/10", "bytes 0-4/+10", "bytes 0-4/-1", "bytes */-1",
		"bytes 5-4/10", "bytes 5-4/*", "bytes 0-0/0", "bytes 10-10/10", "bytes 9-10/10", "bytes 0-4/10/10", "bytes */10/*", "bytes 0-4-5/10", "bytes **/10", "bytes *-*/10", "bytes 0-*/10", "bytes 0-4/**",
	} {
		checkTold(t, s, api.Span{}, 0, api.ErrUnit)
	}
	checkTold(t, "bytes */0", api.Span{}, 0, api.OK)
	checkTold(t, "bytes 0-0/1", api.Span{From: 0, To: 1}, 1, api.OK)
	checkTold(t, "bytes 10-20/21", api.Span{From: 10, To: 21}, 21, api.OK)
	checkTold(t, "bytes 7-7/*", api.Span{From: 7, To: 8}, -1, api.OK)
}

// 9.5, held against patterns, over all short texts; what is told of a whole is told again in the same words.
func TestToldAll(t *testing.T) {
	found := 0
	compare := func(s string) {
		x, size, err := span.Told(s)
		if want, wantSize, wantErr := modelTold(s); x != want || size != wantSize || err != wantErr {
			t.Fatalf("Told(%q): %v, %d, %d; want %v, %d, %d", s, x, size, err, want, wantSize, wantErr)
		}
		if err != api.OK {
			return
		}
		found++
		again := s
		if x == (api.Span{}) {
			again, err = span.TellNone(size)
		} else if size >= 0 {
			again, err = span.Tell(x, size)
		}
		if again != s || err != api.OK {
			t.Fatalf("Told of %q is told as %q", s, again)
		}
	}
	for s := range texts([]string{"-", "/", "*", "0", "1", "2", "34", " "}, 6) {
		compare("bytes " + s)
	}
	if found < 100 {
		t.Error("too few were told:", found)
	}
	for _, s := range []string{"bytes 0-4/10", "bytes 0-4/*", "bytes */10"} {
		for e := range edits(s, allBytes("")) {
			compare(e)
		}
		for n := range s {
			compare(s[:n])
			compare(s[n:])
		}
	}
}
