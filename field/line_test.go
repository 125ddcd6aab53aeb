package field_test

import (
	"slices"
	"strings"
	"testing"

	"turnpike/api"
	"turnpike/field"
)

func parseLine(line string) readLine {
	f, at, err := field.ParseLine(line)
	return readLine{f, at, err}
}

func fault(at int, err api.Errno) readLine { return readLine{at: at, err: err} }

func got(name, value string) readLine { return readLine{f: api.Field{Name: name, Value: value}} }

// 6.2, the example 2.
func TestParseLine(t *testing.T) {
	long, wide := strings.Repeat("n", 128), strings.Repeat("v", 8192)
	for _, x := range []struct {
		line string
		want readLine
	}{
		{"Host: a ", got("Host", "a")},
		{"A:", got("A", "")},
		{"A: \t ", got("A", "")},
		{"A:b", got("A", "b")},
		{"a:\t b\tc \t", got("a", "b\tc")},
		{"A:b:c", got("A", "b:c")},
		{"A::", got("A", ":")},
		{"A: \xff", got("A", "\xff")},
		{long + ":", got(long, "")},
		{"A:" + wide, got("A", wide)},
		{"A: \t" + wide + " \t ", got("A", wide)},
		{"A b: c", fault(1, api.ErrName)},
		{"A : c", fault(1, api.ErrName)},
		{": c", fault(0, api.ErrName)},
		{":", fault(0, api.ErrName)},
		{": \x00", fault(0, api.ErrName)},
		{"\x00: c", fault(0, api.ErrName)},
		{"a\r\n: c", fault(1, api.ErrName)},
		{" A: c", fault(0, api.ErrFolded)},
		{"\tA: c", fault(0, api.ErrFolded)},
		{" ", fault(0, api.ErrFolded)},
		{" :", fault(0, api.ErrFolded)},
		{" a", fault(0, api.ErrFolded)},
		{"abc", fault(3, api.ErrColon)},
		{"", fault(0, api.ErrColon)},
		{"a b\x00", fault(4, api.ErrColon)},
		{"A: b\x01", fault(4, api.ErrValue)},
		{"A:\x7f\x00", fault(2, api.ErrValue)},
		{"A: b \r", fault(5, api.ErrValue)},
		{"A b: \x00", fault(1, api.ErrName)},
		{long + "n:", fault(128, api.ErrName)},
		{long + " :", fault(128, api.ErrName)},
		{long + "n :", fault(128, api.ErrName)},
		{long[1:] + " n:", fault(127, api.ErrName)},
		{long + "n: \x00", fault(128, api.ErrName)},
		{"A:" + wide + "v", fault(8194, api.ErrValue)},
		{"A: \t" + wide + "vv ", fault(8196, api.ErrValue)},
		{"A: " + wide + "v\x00", fault(8196, api.ErrValue)},
		{"A: \x00" + wide + "v", fault(3, api.ErrValue)},
		{"A:" + wide + " v", fault(8194, api.ErrValue)},
		{strings.Repeat("n", 1000), fault(1000, api.ErrColon)},
	} {
		if got := parseLine(x.line); got != x.want {
			t.Errorf("ParseLine(%.40q): %+.40v; want %+.40v", x.line, got, x.want)
		}
	}
}

// 6.2: each byte at each place.
func TestParseLineEachByte(t *testing.T) {
	for c := range 256 {
		b := string([]byte{byte(c)})
		for _, line := range []string{b, b + "a:b", "a" + b + ":b", "a:" + b, "a: " + b + "b", "a:b" + b} {
			if got, want := parseLine(line), modelLine(line); got != want {
				t.Errorf("ParseLine(%q): %+v; want %+v", line, got, want)
			}
		}
	}
}

// 6.2: all short lines, held against patterns.
func TestLinesAgainstPattern(t *testing.T) {
	pieces := []string{"a", ":", " ", "\t", "\x00", "\xe4", "\r", "/"}
	for line := range texts(pieces, 5) {
		if got, want := parseLine(line), modelLine(line); got != want {
			t.Fatalf("ParseLine(%q): %+v; want %+v", line, got, want)
		}
	}
	for _, name := range []int{127, 128, 129, 130} {
		for _, value := range []int{8191, 8192, 8193, 8194} {
			for s := range texts([]string{" ", "\x00", "v"}, 2) {
				line := strings.Repeat("n", name) + ":" + s + strings.Repeat("v", value) + s
				if got, want := parseLine(line), modelLine(line); got != want {
					t.Fatalf("ParseLine of %d and %d bytes and %q: %d, %d; want %d, %d", name, value, s, got.at, got.err, want.at, want.err)
				}
			}
		}
	}
}

// 6.2, the example 2.
func TestPrintLine(t *testing.T) {
	long, wide := strings.Repeat("n", 128), strings.Repeat("v", 8192)
	for _, x := range []struct {
		name, value, want string
		err               api.Errno
	}{
		{"A", "", "A:", api.OK},
		{"A", "b", "A: b", api.OK},
		{"a-B", "b \t:c", "a-B: b \t:c", api.OK},
		{long, wide, long + ": " + wide, api.OK},
		{"", "a", "", api.ErrName},
		{"a b", "a", "", api.ErrName},
		{"a:", "a", "", api.ErrName},
		{long + "n", "", "", api.ErrName},
		{"", " ", "", api.ErrName},
		{"a", " b", "", api.ErrValue},
		{"a", "b ", "", api.ErrValue},
		{"a", "\r\nb: c", "", api.ErrValue},
		{"a", wide + "v", "", api.ErrValue},
	} {
		if got, err := field.PrintLine(api.Field{Name: x.name, Value: x.value}); got != x.want || err != x.err {
			t.Errorf("PrintLine(%.20q, %.20q): %.40q, %d", x.name, x.value, got, err)
		}
	}
}

// 6.3, the example 3.
func TestParse(t *testing.T) {
	hundred := strings.Repeat("A: v\r\n", 100)
	for _, x := range []struct {
		text string
		want []api.Field
		at   int
		err  api.Errno
	}{
		{"A: 1\r\nB:2\r\n", of("A", "1", "B", "2"), 0, api.OK},
		{"", nil, 0, api.OK},
		{"a:\r\nA: x\r\na:\r\n", of("a", "", "A", "x", "a", ""), 0, api.OK},
		{"A: 1", nil, 4, api.ErrBreak},
		{"A: 1\r", nil, 5, api.ErrBreak},
		{"A: 1\n", nil, 5, api.ErrBreak},
		{"\r", nil, 1, api.ErrBreak},
		{" : \x00", nil, 4, api.ErrBreak},
		{"A: 1\r\nB", nil, 7, api.ErrBreak},
		{"A: 1\r\n\r\n", nil, 6, api.ErrColon},
		{"\r\n", nil, 0, api.ErrColon},
		{"A: 1\nB: 2\r\n", nil, 4, api.ErrValue},
		{"A: 1\r\r\n", nil, 4, api.ErrValue},
		{"A: 1\n\r\n", nil, 4, api.ErrValue},
		{"A: 1\r\n b\r\n", nil, 6, api.ErrFolded},
		{"A: 1\r\n\tb\r\n", nil, 6, api.ErrFolded},
		{"A: 1\r\nbc d: e\r\n", nil, 8, api.ErrName},
		{"A: 1\r\nbcd\r\n", nil, 9, api.ErrColon},
		{"A: 1\r\nB: \x00\r\nC", nil, 9, api.ErrValue},
		{hundred, many(100, "A"), 0, api.OK},
		{hundred + "B: v\r\n", nil, 600, api.ErrMany},
		{hundred + "\r\n", nil, 600, api.ErrMany},
		{hundred + " \r\nc", nil, 600, api.ErrMany},
		{hundred + "B: v", nil, 604, api.ErrBreak},
		{hundred + "B: v\r\nC", nil, 600, api.ErrMany},
		{hundred[6:] + "B: \x00\r\nB:\r\n", nil, 597, api.ErrValue},
	} {
		if l, at, err := field.Parse(x.text); !slices.Equal(l, x.want) || at != x.at || err != x.err {
			t.Errorf("Parse(%.40q): %.40q, %d, %d; want %.40q, %d, %d", x.text, l, at, err, x.want, x.at, x.err)
		}
	}
}

// 6.3: all short texts, held against patterns.
func TestParseAgainstPattern(t *testing.T) {
	pieces := []string{"a", ":", " ", "\r", "\n", "\r\n", "b: c\r\n"}
	for text := range texts(pieces, 6) {
		l, at, err := field.Parse(text)
		want, wantAt, wantErr := modelParse(text)
		if !slices.Equal(l, want) || at != wantAt || err != wantErr {
			t.Fatalf("Parse(%q): %q, %d, %d; want %q, %d, %d", text, l, at, err, want, wantAt, wantErr)
		}
	}
}

// 6.3
func TestPrint(t *testing.T) {
	for _, x := range []struct {
		l    []api.Field
		want string
		err  api.Errno
	}{
		{nil, "", api.OK},
		{of("A", "1", "b", "", "A", "2"), "A: 1\r\nb:\r\nA: 2\r\n", api.OK},
		{of("A", "1", "", "2", "b", " "), "", api.ErrName},
		{of("A", "1", "b", " ", "", "2"), "", api.ErrValue},
		{of("A", "1", "", " "), "", api.ErrName},
		{many(100, "A"), strings.Repeat("A: v\r\n", 100), api.OK},
		{many(101, "A"), "", api.ErrMany},
		{many(101, ""), "", api.ErrMany},
		{many(100, ""), "", api.ErrName},
	} {
		if got, err := field.Print(x.l); got != x.want || err != x.err {
			t.Errorf("Print(%.40q): %.40q, %d", x.l, got, err)
		}
	}
}

// 6.12: what is printed is read back; what is read and printed again means the same.
func TestThereAndBack(t *testing.T) {
	names := []string{"a", "A", "x-y", strings.Repeat("n", 128)}
	values := []string{"", "v", "a: b, \"c\"", "\xff \t\x80", strings.Repeat("v", 8192)}
	for l := range fieldLists(names, values, 3) {
		text, err := field.Print(l)
		if err != api.OK {
			t.Fatalf("Print(%.40q): %d", l, err)
		}
		if back, at, err := field.Parse(text); !slices.Equal(back, l) || at != 0 || err != api.OK {
			t.Fatalf("Parse(%.40q): %.40q, %d, %d", text, back, at, err)
		}
	}
	text, _ := field.Print(many(100, "A"))
	if back, _, err := field.Parse(text); !slices.Equal(back, many(100, "A")) || err != api.OK {
		t.Errorf("Parse of 100 fields: %d, %d", len(back), err)
	}
}

// R1: long texts end soon.
func TestLongLines(t *testing.T) {
	const size = 1 << 22
	spaces := strings.Repeat(" ", size)
	if got := parseLine("A:" + spaces); got.f.Name != "A" || got.f.Value != "" || got.err != api.OK {
		t.Errorf("ParseLine of blanks: %d, %d", got.at, got.err)
	}
	if got := parseLine("A:" + spaces + strings.Repeat("v", size)); got != fault(2+size+8192, api.ErrValue) {
		t.Errorf("ParseLine of a long value: %d, %d", got.at, got.err)
	}
	if got := parseLine(strings.Repeat("n", size) + ":"); got != fault(128, api.ErrName) {
		t.Errorf("ParseLine of a long name: %d, %d", got.at, got.err)
	}
	if _, at, err := field.Parse(strings.Repeat("A:\r\n", size)); at != 400 || err != api.ErrMany {
		t.Errorf("Parse of many lines: %d, %d", at, err)
	}
	if _, at, err := field.Parse(strings.Repeat("\r", size)); at != size || err != api.ErrBreak {
		t.Errorf("Parse of line ends that are none: %d, %d", at, err)
	}
}
