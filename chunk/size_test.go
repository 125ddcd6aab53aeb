package chunk_test

import (
	"math"
	"slices"
	"strings"
	"testing"

	"turnpike/api"
	"turnpike/chunk"
)

func checkParseSize(t *testing.T, line string, want int, wantExt []api.Param, wantErr api.Errno) {
	t.Helper()
	if n, ext, err := chunk.ParseSize(line); n != want || !slices.Equal(ext, wantExt) || err != wantErr {
		t.Errorf("ParseSize(%.300q): %d, %v, %d; want %d, %v, %d", line, n, ext, err, want, wantExt, wantErr)
	}
}

func checkPrintSize(t *testing.T, n int, ext []api.Param, want string, wantErr api.Errno) {
	t.Helper()
	if s, err := chunk.PrintSize(n, ext); s != want || err != wantErr {
		t.Errorf("PrintSize(%d, %v): %q, %d; want %q, %d", n, ext, s, err, want, wantErr)
	}
}

// 10.1, the example 1.
func TestSizeExamples(t *testing.T) {
	checkParseSize(t, `1a;x="y z"`, 26, []api.Param{{Name: "x", Value: "y z", Has: true}}, api.OK)
	checkParseSize(t, "1A ", 26, nil, api.OK)
	for _, s := range []string{"", " 5", "5 x", "g"} {
		checkParseSize(t, s, 0, nil, api.ErrChunk)
	}
	checkParseSize(t, "fffffffffffffffff", 0, nil, api.ErrMuch)
	checkPrintSize(t, 255, []api.Param{{Name: "a", Value: "b", Has: true}}, "ff; a=b", api.OK)
}

// 10.1: sizes at their limit, zeros ahead, parameters, and what stands behind them.
func TestParseSize(t *testing.T) {
	for s, want := range map[string]int{
		"0": 0, "000": 0, "7": 7, "f": 15, "F": 15, "10": 16, "0010": 16, "aBcDeF": 11259375, "5 \t ": 5, "5;": 5, "5 ; ;; ": 5,
		"10000000000": maxChunk, "ffffffffff": maxChunk - 1, strings.Repeat("0", 243) + "10000000000": maxChunk,
	} {
		checkParseSize(t, s, want, nil, api.OK)
	}
	for _, s := range []string{"10000000001", "fffffffffff", "100000000000", "7fffffffffffffff", "8000000000000000", "ffffffffffffffff", "10000000000000005", strings.Repeat("f", 254), "fffffffffff;a=1 "} {
		checkParseSize(t, s, 0, nil, api.ErrMuch)
	}
	for _, s := range []string{
		";", ";a", " ", "\t5", "-5", "+5", "0x5", "5h", "5.", "5,", "5\r", "5\n", "5\x00", "5 5", "5=", "5;a=", "5;=b", "5;a =b", "5;a= b", `5;a="b`, `5;a="b"c`, "5;a=\"\n\"", "5;a b", "5;a=b/", "5;a;\v",
		"fffffffffff x", "fffffffffff;a=", "\xff", "5\xff", "5;\xff", "５",
	} {
		checkParseSize(t, s, 0, nil, api.ErrChunk)
	}
	checkParseSize(t, "2 ;a\t; B=c;;a=\"\\\"\xff\\x\";d=\"\" ", 2, []api.Param{{Name: "a"}, {Name: "B", Value: "c", Has: true}, {Name: "a", Value: "\"\xffx", Has: true}, {Name: "d", Has: true}}, api.OK)
}

// 10.1 and R6: a line at its limit, and one byte longer.
func TestSizeLineLimit(t *testing.T) {
	name := strings.Repeat("n", 252)
	checkParseSize(t, "5;"+name, 5, []api.Param{{Name: name}}, api.OK)
	checkParseSize(t, "5;"+name+"n", 0, nil, api.ErrChunk)
	checkParseSize(t, "5"+strings.Repeat(" ", 253), 5, nil, api.OK)
	checkParseSize(t, "5"+strings.Repeat(" ", 254), 0, nil, api.ErrChunk)
	checkParseSize(t, strings.Repeat("0", 253)+"5", 5, nil, api.OK)
	checkParseSize(t, strings.Repeat("0", 254)+"5", 0, nil, api.ErrChunk)
	checkParseSize(t, strings.Repeat("f", 255), 0, nil, api.ErrChunk)
	checkParseSize(t, strings.Repeat("f", 1<<20), 0, nil, api.ErrChunk)
	checkPrintSize(t, 5, []api.Param{{Name: name[1:]}}, "5; "+name[1:], api.OK)
	checkPrintSize(t, 5, []api.Param{{Name: name}}, "", api.ErrChunk)
	checkPrintSize(t, 16, []api.Param{{Name: name[1:]}}, "", api.ErrChunk)
	checkPrintSize(t, 16, []api.Param{{Name: name[2:]}}, "10; "+name[2:], api.OK)
	checkPrintSize(t, 5, []api.Param{{Name: "a", Value: strings.Repeat(`"`, 1<<20), Has: true}}, "", api.ErrChunk)
}

// 10.1, held against a pattern, over all short texts and each byte at each place.
func TestParseSizeAll(t *testing.T) {
	check := func(s string) {
		want, wantExt, wantErr := modelSize(s)
		checkParseSize(t, s, want, wantExt, wantErr)
	}
	for s := range texts([]string{"0", "5", "aF", "g", " ", "\t", ";", "=", `"`, `\`, "\r", "fffffffffff"}, 5) {
		check(s)
	}
	for s := range texts([]string{";", "a", "=", `"`, `\`, " "}, 7) {
		check("1" + s)
	}
	for s := range edits("1a ;b; c=d ;e=\"f\\g\" ", everyByte()) {
		check(s)
	}
}

// 10.1.
func TestPrintSize(t *testing.T) {
	for n, want := range map[int]string{0: "0", 1: "1", 9: "9", 10: "a", 15: "f", 16: "10", 171: "ab", 3054: "bee", maxChunk: "10000000000", maxChunk - 1: "ffffffffff"} {
		checkPrintSize(t, n, nil, want, api.OK)
		checkPrintSize(t, n, []api.Param{}, want, api.OK)
	}
	for _, n := range []int{-1, maxChunk + 1, math.MaxInt, math.MinInt} {
		checkPrintSize(t, n, nil, "", api.ErrArg)
		checkPrintSize(t, n, []api.Param{{}}, "", api.ErrArg)
	}
	long := api.Param{Name: strings.Repeat("n", 999)}
	for _, p := range []api.Param{{}, {Name: "a b"}, {Name: "a", Value: "b"}, {Name: "a", Value: "\n", Has: true}, {Name: "ä"}} {
		checkPrintSize(t, 5, []api.Param{p}, "", api.ErrParam)
		checkPrintSize(t, 5, []api.Param{long, p}, "", api.ErrParam)
	}
	checkPrintSize(t, 26, []api.Param{{Name: "x", Value: `y"`, Has: true}, {Name: "b"}, {Name: "C", Has: true}}, `1a; x="y\""; b; C=""`, api.OK)
}

// 10.1 and 10.8: what is printed is read back.
func TestSizeThereAndBack(t *testing.T) {
	params := []api.Param{{Name: "a"}, {Name: "B", Value: "c", Has: true}, {Name: "d", Has: true}, {Name: "e", Value: " \"\\,;\xff", Has: true}}
	for l := range lists(params, 4) {
		for _, n := range []int{0, 1, 10, 255, 4096, maxChunk} {
			s, err := chunk.PrintSize(n, l)
			if err != api.OK {
				t.Fatal("PrintSize:", n, l, err)
			}
			checkParseSize(t, s, n, l, api.OK)
		}
	}
	for n := range 5000 {
		s, _ := chunk.PrintSize(n, nil)
		checkParseSize(t, s, n, nil, api.OK)
		checkParseSize(t, strings.ToUpper(s), n, nil, api.OK)
	}
}

// 10.1.
func TestMayTrail(t *testing.T) {
	none := []string{"Connection", "Content-Encoding", "Content-Length", "Content-Range", "Content-Type", "Expect", "Host", "Keep-Alive", "TE", "Trailer", "Transfer-Encoding", "Upgrade"}
	check := func(name string, want bool) {
		t.Helper()
		if got := chunk.MayTrail(name); got != want {
			t.Errorf("MayTrail(%.200q): %v", name, got)
		}
	}
	for _, name := range none {
		check(name, false)
		check(strings.ToLower(name), false)
		check(strings.ToUpper(name), false)
		check(name[:1]+strings.ToUpper(name[1:]), false)
		check(name+"s", true)
		check("x"+name, true)
		check(name[1:], true)
		check(name+" ", false)
		check(strings.Replace(name, "-", "_", 1), !slices.Contains(none, strings.Replace(name, "-", "_", 1)))
	}
	for name := range edits("Host", everyByte()) {
		check(name, fieldName.MatchString(runes(name)) && !noTrailer.MatchString(runes(name)))
	}
	for name := range edits("te", everyByte()) {
		check(name, fieldName.MatchString(runes(name)) && !noTrailer.MatchString(runes(name)))
	}
	for _, name := range []string{"A", "Etag", "Content-MD5", "Date", "Trailers", "Set-Cookie", "Proxy-Connection", "Authorization", "1", "~", strings.Repeat("n", 128)} {
		check(name, true)
	}
	for _, name := range []string{"", " ", "a b", "a:", "ä", "a\x00", "\x7f", strings.Repeat("n", 129), strings.Repeat("n", 1<<20), "hoſt"} {
		check(name, false)
	}
}
