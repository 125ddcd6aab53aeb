package sheet_test

import (
	"slices"
	"strings"
	"testing"

	"turnpike/api"
	"turnpike/sheet"
)

func checkPairs(t *testing.T, s string, want []api.Param, wantAt int, wantErr api.Errno) {
	t.Helper()
	if l, at, err := sheet.Pairs(s); !slices.Equal(l, want) || at != wantAt || err != wantErr {
		t.Errorf("Pairs(%.60q): %s, %d, %d; want %s, %d, %d", s, show(l), at, err, show(want), wantAt, wantErr)
	}
}

func checkPrintPairs(t *testing.T, l []api.Param, want string, wantErr api.Errno) {
	t.Helper()
	if s, err := sheet.PrintPairs(l); s != want || err != wantErr {
		t.Errorf("PrintPairs(%s): %q, %d; want %q, %d", show(l), s, err, want, wantErr)
	}
}

// 15.1, the example 1.
func TestPairsExamples(t *testing.T) {
	checkPairs(t, "a=b+c&&d&=%41", []api.Param{pair("a", "b c"), alone("d"), pair("", "A")}, 0, api.OK)
	checkPairs(t, "%", nil, 0, api.ErrPercent)
	checkPrintPairs(t, []api.Param{pair("a b", "1/2")}, "a+b=1%2F2", api.OK)
}

// 15.1: the pairs, of whatever bytes.
func TestPairs(t *testing.T) {
	for s, want := range map[string][]api.Param{
		"": nil, "&": nil, "&&&": nil, "=": {pair("", "")}, "==": {pair("", "=")}, "a==b=": {pair("a", "=b=")}, "a=": {pair("a", "")}, "&a&": {alone("a")},
		"a&a=1&A": {alone("a"), pair("a", "1"), alone("A")}, "+": {alone(" ")}, "a+b=c+d": {pair("a b", "c d")},
		// What comes out of a triple is a byte and no sign.
		"%2B+%2b": {alone("+ +")}, "%26=%3D&%3d": {pair("&", "="), alone("=")}, "%2541": {alone("%41")}, "%25=%2525": {pair("%", "%25")}, "%20=%00": {pair(" ", "\x00")},
		// Bytes that may not stand in a query.
		"a b=c\"d": {pair("a b", "c\"d")}, "\x00=\xff": {pair("\x00", "\xff")}, "#?/;:@[]<>{}|\\^`": {alone("#?/;:@[]<>{}|\\^`")}, "\r\n&\n": {alone("\r\n"), alone("\n")},
		"\xc3\xa4=\xe2\x82\xac": {pair("\xc3\xa4", "\xe2\x82\xac")}, " =\t": {pair(" ", "\t")}, "~*-._": {alone("~*-._")}, "a;b=1": {pair("a;b", "1")},
	} {
		checkPairs(t, s, want, 0, api.OK)
	}
}

// 15.1: the first % without its two digits, also behind what may not stand in a query.
func TestPairsPercent(t *testing.T) {
	for s, at := range map[string]int{
		"%": 0, "%4": 0, "%4g": 0, "%g4": 0, "%%41": 0, "a=%": 2, "a%4&b": 1, "%4=1": 0, "%41%": 3, "a&%=": 2, "%+4": 0, "+%+4": 1, "% 4": 0, "%-1": 0, "%0x": 0,
		" %": 1, "\xff\x00%zz%": 2, "\xc3\xa4%": 2, "#%41#%4": 5, "%41&%42=%4": 8, "&&%&%": 2, "%4\xff": 0, "%\xb2\xb3": 0,
	} {
		checkPairs(t, s, nil, at, api.ErrPercent)
	}
}

// 15.1, held against the library: all short rows of what stands in such bodies, and each byte.
func TestPairsAll(t *testing.T) {
	compare := func(s string) {
		want, at, err := modelPairs(s)
		checkPairs(t, s, want, at, err)
	}
	for s := range texts([]string{"&", "=", "+", "a", "%41", "%2b", "%", " ", "\xff", "0"}, 5) {
		compare(s)
	}
	for _, c := range []byte(allBytes()) {
		for _, s := range []string{"", "a1", "=", "%4", "%", "&a=%30", "%441"} {
			for i := range len(s) + 1 {
				compare(s[:i] + string([]byte{c}) + s[i:])
			}
		}
	}
}

// 15.1: what may not be printed.
func TestPrintPairsErrors(t *testing.T) {
	for _, bad := range []api.Param{alone(""), {Value: "x"}, {Name: "a", Value: "x"}, {Name: "a", Value: " "}} {
		checkPrintPairs(t, []api.Param{bad}, "", api.ErrPair)
		checkPrintPairs(t, []api.Param{pair("a", "b"), bad}, "", api.ErrPair)
		checkPrintPairs(t, []api.Param{bad, pair("a", "b")}, "", api.ErrPair)
	}
}

// 15.1: the form of each byte, in a name and in a value, alone and ahead of others that could be taken for a triple's.
func TestPrintPairs(t *testing.T) {
	checkPrintPairs(t, nil, "", api.OK)
	checkPrintPairs(t, []api.Param{}, "", api.OK)
	checkPrintPairs(t, []api.Param{pair("", "")}, "=", api.OK)
	checkPrintPairs(t, []api.Param{alone("a"), pair("", "x"), pair("b", ""), alone("a")}, "a&=x&b=&a", api.OK)
	checkPrintPairs(t, []api.Param{pair("*-._~ +", "&=%\x00\xff/")}, "*-._%7E+%2B=%26%3D%25%00%FF%2F", api.OK)
	checkPrintPairs(t, []api.Param{pair("%20", "%2A~%7E")}, "%2520=%252A%7E%257E", api.OK)
	for _, c := range []byte(allBytes()) {
		for _, behind := range []string{"", "20", "2A", "0", "%20", "~"} {
			s := string([]byte{c}) + behind
			want := modelPrinted(s)
			checkPrintPairs(t, []api.Param{alone(s)}, want, api.OK)
			checkPrintPairs(t, []api.Param{pair(s, s), pair("a", s)}, want+"="+want+"&a="+want, api.OK)
		}
	}
}

// 15.1: Pairs of what is printed is what was printed; all that is told by Pairs can be printed.
func TestPairsThereAndBack(t *testing.T) {
	var some []api.Param
	for _, name := range []string{"", "a", "&", "=", "+ ", "%41", "~*", allBytes()} {
		some = append(some, alone(name))
		for _, value := range []string{"", "b", "=&", " +", "%", allBytes()} {
			some = append(some, pair(name, value))
		}
	}
	some = slices.DeleteFunc(some, func(p api.Param) bool { return p == alone("") })
	for l := range lists(some, 2) {
		s, err := sheet.PrintPairs(l)
		if err != api.OK {
			t.Fatalf("PrintPairs(%s): %d", show(l), err)
		}
		checkPairs(t, s, l, 0, api.OK)
	}
	for s := range texts([]string{"&", "=", "+", "a", "%41", "%2b", " ", "\xff"}, 5) {
		l, _, _ := sheet.Pairs(s)
		again, err := sheet.PrintPairs(l)
		if err != api.OK {
			t.Fatalf("PrintPairs(%s): %d", show(l), err)
		}
		checkPairs(t, again, l, 0, api.OK)
	}
}

// R1: long bodies are read and printed soon.
func TestPairsLong(t *testing.T) {
	const n = 200000
	for s, want := range map[string]int{strings.Repeat("a&", n): n, strings.Repeat("&", n): 0, strings.Repeat("%41", n): 1, strings.Repeat("=", n): 1, strings.Repeat("\xff", n): 1} {
		l, at, err := sheet.Pairs(s)
		if len(l) != want || at != 0 || err != api.OK {
			t.Error(len(l), want, at, err)
		}
		if again, err := sheet.PrintPairs(l); err != api.OK || want > 0 && len(again) < n {
			t.Error(len(again), err)
		}
	}
	checkPairs(t, strings.Repeat("%41", n)+"%", nil, 3*n, api.ErrPercent)
}
