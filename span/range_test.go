package span_test

import (
	"math"
	"slices"
	"strings"
	"testing"

	"turnpike/api"
	"turnpike/span"
)

const top = 1 << 62

// of is the spans of pairs of numbers.
func of(ends ...int) []api.Span {
	var l []api.Span
	for i := 0; i+1 < len(ends); i += 2 {
		l = append(l, api.Span{From: ends[i], To: ends[i+1]})
	}
	return l
}

func checkParse(t *testing.T, s string, size int, want []api.Span, wantErr api.Errno) {
	t.Helper()
	if l, err := span.Parse(s, size); !slices.Equal(l, want) || err != wantErr {
		t.Errorf("Parse(%q, %d): %v, %d; want %v, %d", s, size, l, err, want, wantErr)
	}
}

// 9.1, the example 1.
func TestParseExamples(t *testing.T) {
	checkParse(t, "bytes=0-4,-2, 8-", 10, of(0, 5, 8, 10, 8, 10), api.OK)
	for _, s := range []string{"bytes=5-4", "bytes=", "bytes=a-b", "items=0-1", "bytes 0-1"} {
		checkParse(t, s, 10, nil, api.ErrUnit)
	}
	checkParse(t, "bytes=10-", 10, nil, api.ErrSpan)
	checkParse(t, "bytes=-0", 10, nil, api.ErrSpan)
	checkParse(t, "bytes=0-", 0, nil, api.ErrSpan)
	checkParse(t, "bytes=0-99", 10, of(0, 10), api.OK)
}

// 9.1: the three kinds of elements, each at the edges of a body.
func TestParseElements(t *testing.T) {
	for s, want := range map[string][]api.Span{
		"bytes=0-0": of(0, 1), "bytes=9-9": of(9, 10), "bytes=0-8": of(0, 9), "bytes=0-9": of(0, 10), "bytes=0-10": of(0, 10), "bytes=9-10": of(9, 10),
		"bytes=0-": of(0, 10), "bytes=9-": of(9, 10), "bytes=-1": of(9, 10), "bytes=-9": of(1, 10), "bytes=-10": of(0, 10), "bytes=-11": of(0, 10),
		"BYTES=1-2": of(1, 3), "bYtEs=1-2": of(1, 3), "bytes= \t1-2\t ": of(1, 3), "bytes=,,1-2, ,": of(1, 3), "bytes=001-0002": of(1, 3), "bytes=-0003": of(7, 10),
		// What can't be met is left out, the rest stays in its order, twice if it stands there twice.
		"bytes=10-,3-4,-0,1-2,3-4,10-12": of(3, 5, 1, 3, 3, 5),
	} {
		checkParse(t, s, 10, want, api.OK)
	}
	for _, s := range []string{"bytes=10-", "bytes=10-10", "bytes=11-", "bytes=-0", "bytes=-000", "bytes=10-12,-0,99-"} {
		checkParse(t, s, 10, nil, api.ErrSpan)
	}
	for _, s := range []string{"bytes=0-0", "bytes=0-", "bytes=-1", "bytes=-0"} {
		checkParse(t, s, 0, nil, api.ErrSpan)
	}
	checkParse(t, "bytes=-5,0-,0-0,-1", 1, of(0, 1, 0, 1, 0, 1, 0, 1), api.OK)
}

// 9.1: one element that is none makes the whole no range header, whatever stands beside it.
func TestParseWrong(t *testing.T) {
	for _, s := range []string{
		"", "=", "bytes", "byte=0-1", "bytess=0-1", " bytes=0-1", "bytes =0-1", "bytes==0-1", "=0-1", "bytes:0-1", "b\xd9tes=0-1",
		"bytes=,", "bytes= , ,\t", "bytes=-", "bytes=--", "bytes=--1", "bytes=1", "bytes=1--", "bytes=1--2", "bytes=1-2-3", "bytes=1-2-", "bytes=+1-2", "bytes=1-+2", "bytes=1 -2", "bytes=1- 2", "bytes=0x1-2",
		"bytes=\n1-2", "bytes=1-2;3-4", "bytes=1-2 3-4", "bytes=1.0-2", "bytes=*", "bytes=0-1/2", "bytes=1-0", "bytes=2-1", "bytes=10-9",
		"bytes=0-1,x", "bytes=x,0-1", "bytes=0-1,5-4", "bytes=99-98", "bytes=0-1,\"", "bytes=\"0-1\"", "bytes=\"a,b\",0-1", "bytes=0-\"1\"",
	} {
		checkParse(t, s, 10, nil, api.ErrUnit)
		checkParse(t, s, 0, nil, api.ErrUnit)
	}
}

// 9.1 and R2: ErrArg comes ahead of all.
func TestParseSize(t *testing.T) {
	for _, size := range []int{-1, -2, math.MinInt} {
		checkParse(t, "bytes=0-1", size, nil, api.ErrArg)
		checkParse(t, "", size, nil, api.ErrArg)
		checkParse(t, "bytes=9-", size, nil, api.ErrArg)
	}
}

// 9.1: a number above 2^62 counts as 2^62, however many digits it has.
func TestParseGreat(t *testing.T) {
	nines := strings.Repeat("9", 1000)
	checkParse(t, "bytes=0-"+nines, 10, of(0, 10), api.OK)
	checkParse(t, "bytes=-"+nines, 10, of(0, 10), api.OK)
	checkParse(t, "bytes="+nines+"-", 10, nil, api.ErrSpan)
	checkParse(t, "bytes="+nines+"-"+nines, 10, nil, api.ErrSpan)
	checkParse(t, "bytes="+strings.Repeat("0", 1000)+"3-"+strings.Repeat("0", 1000)+"4", 10, of(3, 5), api.OK)
	// 2^62 is 4611686018427387904: two numbers that are not below it are the same.
	checkParse(t, "bytes=4611686018427387905-4611686018427387904", 10, nil, api.ErrSpan)
	checkParse(t, "bytes=4611686018427387904-4611686018427387903", 10, nil, api.ErrUnit)
	checkParse(t, "bytes=9223372036854775808-9223372036854775807,0-0", 10, of(0, 1), api.OK)
	s := "bytes=4611686018427387904-" + nines + ",0-" + nines + ",4611686018427387904-,4611686018427387903-,-" + nines
	for size, want := range map[int][]api.Span{
		math.MaxInt32: of(0, math.MaxInt32, 0, math.MaxInt32),
		top:           of(0, top, top-1, top, 0, top),
		top + 1:       of(top, top+1, 0, top+1, top, top+1, top-1, top+1, 1, top+1),
		math.MaxInt:   of(top, top+1, 0, top+1, top, math.MaxInt, top-1, math.MaxInt, top-1, math.MaxInt),
	} {
		checkParse(t, s, size, want, api.OK)
		if l, err := modelParse(s, size); !slices.Equal(l, want) || err != api.OK {
			t.Error("the model:", size, l, err)
		}
	}
}

// 9.1, held against the pattern, over all short texts.
func TestParseAll(t *testing.T) {
	seen := map[api.Errno]int{}
	for s := range texts([]string{"-", "0", "1", "2", "34", ",", " ", "\t", "x"}, 5) {
		for _, size := range []int{0, 1, 2, 3, 40} {
			l, err := span.Parse("Bytes="+s, size)
			want, wantErr := modelParse("Bytes="+s, size)
			if !slices.Equal(l, want) || err != wantErr {
				t.Fatalf("Parse(%q, %d): %v, %d; want %v, %d", "Bytes="+s, size, l, err, want, wantErr)
			}
			seen[err]++
		}
	}
	for _, err := range []api.Errno{api.OK, api.ErrUnit, api.ErrSpan} {
		if seen[err] < 1000 {
			t.Error("too few of", err, seen)
		}
	}
	for s := range edits("bytes=0-1, -2,3-", allBytes(`"`)) {
		l, err := span.Parse(s, 4)
		if want, wantErr := modelParse(s, 4); !slices.Equal(l, want) || err != wantErr {
			t.Fatalf("Parse(%q): %v, %d; want %v, %d", s, l, err, want, wantErr)
		}
	}
}

// allBytes is each byte once but some.
func allBytes(but string) string {
	var b []byte
	for c := range 256 {
		if strings.IndexByte(but, byte(c)) < 0 {
			b = append(b, byte(c))
		}
	}
	return string(b)
}

func checkPrint(t *testing.T, l []api.Span, size int, want string, wantErr api.Errno) {
	t.Helper()
	if s, err := span.Print(l, size); s != want || err != wantErr {
		t.Errorf("Print(%v, %d): %q, %d; want %q, %d", l, size, s, err, want, wantErr)
	}
}

// 9.2.
func TestPrint(t *testing.T) {
	checkPrint(t, of(0, 5), 10, "bytes=0-4", api.OK)
	checkPrint(t, of(0, 5, 8, 10, 8, 10), 10, "bytes=0-4,8-9,8-9", api.OK)
	checkPrint(t, of(0, 1), 1, "bytes=0-0", api.OK)
	checkPrint(t, of(9, 10, 0, 10), 10, "bytes=9-9,0-9", api.OK)
	checkPrint(t, of(top-1, top), top, "bytes=4611686018427387903-4611686018427387903", api.OK)
	checkPrint(t, of(0, math.MaxInt), math.MaxInt, "bytes=0-9223372036854775806", api.OK)
}

// 9.2 and R2: what is no span, and the order of the errors.
func TestPrintWrong(t *testing.T) {
	for _, l := range [][]api.Span{nil, {}, of(0, 0), of(5, 5), of(5, 4), of(-1, 3), of(0, 11), of(10, 11), of(0, 1, 3, 3), of(3, 2, 0, 1), of(0, 1, 9, 11, 0, 1), of(math.MinInt, math.MaxInt), of(math.MaxInt, math.MinInt), of(-2, -1)} {
		checkPrint(t, l, 10, "", api.ErrSpan)
		checkPrint(t, l, 0, "", api.ErrSpan)
		checkPrint(t, l, -1, "", api.ErrArg)
		checkPrint(t, l, math.MinInt, "", api.ErrArg)
	}
	checkPrint(t, of(0, 1), 0, "", api.ErrSpan)
	checkPrint(t, of(0, 1), -1, "", api.ErrArg)
}

// 9.2: Parse of Print is the list; and Print answers of just the lists of spans.
func TestPrintParse(t *testing.T) {
	var all []api.Span
	for from := -1; from < 5; from++ {
		for to := -1; to < 6; to++ {
			all = append(all, api.Span{From: from, To: to})
		}
	}
	for l := range lists(all, 2) {
		for size := range 5 {
			right := len(l) > 0
			for _, x := range l {
				right = right && modelSpan(x, size)
			}
			s, err := span.Print(l, size)
			if right != (err == api.OK) {
				t.Fatalf("Print(%v, %d): %q, %d", l, size, s, err)
			}
			if right {
				checkParse(t, s, size, l, api.OK)
			}
		}
	}
}
