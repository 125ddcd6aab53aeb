package sheet_test

import (
	"slices"
	"strings"
	"testing"

	"turnpike/api"
	"turnpike/sheet"
)

const (
	fieldA = "Content-Disposition: form-data; name=a|"
	fieldB = "content-disposition: Form-Data; FileName=\"f \\\"x\"; NAME=b; other=1|"

	// Two parts, the second one of a file; | stands for a line end.
	twoParts = "--B|" + fieldA + "||--B \t|X-Other: y|" + fieldB + "Content-Type: t/p |||--b|--|--B--"
)

func checkParse(t *testing.T, s string, want []api.Part, wantAt int, wantErr api.Errno) {
	t.Helper()
	checkMost(t, s, 9, want, wantAt, wantErr)
}

func checkMost(t *testing.T, s string, most int, want []api.Part, wantAt int, wantErr api.Errno) {
	t.Helper()
	if l, at, err := sheet.Parse("B", s, most); !slices.Equal(l, want) || at != wantAt || err != wantErr {
		t.Errorf("Parse(%.300q, %d): %s, %d, %d; want %s, %d, %d", s, most, show(l), at, err, show(want), wantAt, wantErr)
	}
}

// 15.4, the example 3.
func TestParseExamples(t *testing.T) {
	const one = "--B|Content-Disposition: form-data; name=a||1|--B--"
	checkParse(t, lines(one), []api.Part{{Name: "a", Body: "1"}}, 0, api.OK)
	checkParse(t, lines("x|"+one+"|y"), []api.Part{{Name: "a", Body: "1"}}, 0, api.OK)
	checkParse(t, "--B--", nil, 3, api.ErrBoundary)
	short := lines("--B|Content-Disposition: form-data; name=a||1")
	checkParse(t, short, nil, len(short), api.ErrShut)
	checkParse(t, lines("--B|||--B--"), nil, 5, api.ErrPart)
}

// 15.4: a boundary that is none, ahead of a number of parts that may not be, ahead of all in the text.
func TestParseArguments(t *testing.T) {
	for _, boundary := range []string{"", " ", "a b", "B ", "B\r\n", "\xff", "*", strings.Repeat("B", 71)} {
		for _, most := range []int{-1, 0, 1} {
			for _, s := range []string{"", lines("--" + boundary + "|" + fieldA + "|1|--" + boundary + "--")} {
				if l, at, err := sheet.Parse(boundary, s, most); len(l) != 0 || at != 0 || err != api.ErrBoundary {
					t.Errorf("Parse(%q, %q, %d): %s, %d, %d", boundary, s, most, show(l), at, err)
				}
			}
		}
	}
	for _, most := range []int{0, -1, -1 << 63} {
		for _, s := range []string{"", "--Bx", "--B--", lines("--B|" + fieldA + "|1|--B--")} {
			checkMost(t, s, most, nil, 0, api.ErrArg)
		}
	}
	long := strings.Repeat("B", 70)
	s := lines("--" + long + "|" + fieldA + "|1|--" + long + "--")
	if l, at, err := sheet.Parse(long, s, 1); !slices.Equal(l, []api.Part{{Name: "a", Body: "1"}}) || at != 0 || err != api.OK {
		t.Error("a boundary of 70 bytes:", l, at, err)
	}
}

// 15.4: names, files, media types and bytes as they stand, of all that is right.
func TestParse(t *testing.T) {
	parts := []api.Part{{Name: "a"}, {Name: "b", File: "f \"x", HasFile: true, Media: "t/p", Body: "\r\n--b\r\n--"}}
	for _, ahead := range []string{"", "|", "any bytes|", "--|", "--b|", "-|", "x--B|", "--C|--D|", "||", "\r|", "\n--B|", "\r--B|", "\x00\xff|", " --B|"} {
		for _, behind := range []string{"", "|", "|y", "|--B|", "|--B--", "||--B-", "|\x00\xff", "|--B|" + fieldA + "|1|--B--|"} {
			checkParse(t, lines(ahead+twoParts+behind), parts, 0, api.OK)
			checkMost(t, lines(ahead+twoParts+behind), 2, parts, 0, api.OK)
			checkMost(t, lines(ahead+twoParts+behind), 1<<62, parts, 0, api.OK)
		}
	}
	for body, want := range map[string]string{
		"": "", "|": "|", "-": "-", "--": "--", "x--B": "x--B", "x--B|y": "x--B|y", " --B": " --B", "\n--B": "\n--B", "\r--B": "\r--B", "\r": "\r", "\n": "\n", "|\r": "|\r", "--b": "--b", "|--": "|--", "|-\xffB": "|-\xffB", "\x00\xff": "\x00\xff", "||": "||",
	} {
		checkParse(t, lines("--B|"+fieldA+"|"+body+"|--B--"), []api.Part{{Name: "a", Body: lines(want)}}, 0, api.OK)
	}
	for fields, want := range map[string]api.Part{
		"Content-Disposition:form-data;name=\"\"|":                                    {},
		"Content-Disposition: form-data; name=a; filename=\"\"|":                      {Name: "a", HasFile: true},
		"Content-Disposition: form-data; filename=f; name=a|Content-Type:|":           {Name: "a", File: "f", HasFile: true},
		"Content-Type: \t a; b=\"c|" + fieldA:                                         {Name: "a", Media: "a; b=\"c"},
		"Other: 1|Other: 2|other: 3|" + fieldA + "--B: x|--B--:y|":                    {Name: "a"},
		"CONTENT-TYPE: X|CONTENT-DISPOSITION: \t FORM-DATA ; ; NAME=\"\\N\xff\" ;; |": {Name: "N\xff", Media: "X"},
		"Content-Disposition: form-data; name=N; filename*=g; x=\"--B\"|":             {Name: "N"},
		"Content-Disposition2: x|Content-Types: a|" + fieldA + "Content-Typ: b|":      {Name: "a"},
	} {
		checkParse(t, lines("--B|"+fields+"|1|--B--"), []api.Part{{Name: want.Name, File: want.File, Media: want.Media, HasFile: want.HasFile, Body: "1"}}, 0, api.OK)
	}
}

// 15.4: each beginning of what is right is shut at its length, up to the line that ends it.
func TestParseShut(t *testing.T) {
	for _, ahead := range []string{"", "x|"} {
		s := lines(ahead + twoParts)
		for n := range len(s) {
			checkParse(t, s[:n], nil, n, api.ErrShut)
		}
		checkParse(t, s+"\r", nil, len(s)+1, api.ErrShut)
	}
	for _, s := range []string{
		"", "x", "-", "--", "|", "--C|", "x--B|", "|\r", "|--", "\n--B--", "\r--B--", " --B",
		"--B", "--B ", "--B \t", "--B\r", "--B \r", "x|--B", "x|--B\t\r",
		// A line that has not ended is none yet, whatever stands in it.
		"--B|x", "--B| x", "--B|\x00", "--B|:", "--B|\r", "--B|--B--", "--B|" + fieldA, "--B|" + fieldA + "\r", "--B|" + fieldA + "--B--", "--B|Content-Disposition: x", "--B|Content-Disposition: x\r", "--B|" + fieldA + "\n",
		"--B|" + fieldA + "|", "--B|" + fieldA + "|-", "--B|" + fieldA + "|--", "--B|" + fieldA + "||", "--B|" + fieldA + "|1--B--", "--B|" + fieldA + "|1\n--B--", "--B|" + fieldA + "|1\r--B--", "--B|" + fieldA + "|1|-B--",
		"--B|" + fieldA + "|1|--B", "--B|" + fieldA + "|1|--B-", "--B|" + fieldA + "|1|--B--\r", "--B|" + fieldA + "|1|--B ", "--B|" + fieldA + "|1|--B\r", "--B|" + fieldA + "|1|--B \t\r",
	} {
		s := lines(s)
		checkParse(t, s, nil, len(s), api.ErrShut)
		// The part that is one too many is not known there yet, or the text has not come so far.
		checkMost(t, s, 1, nil, len(s), api.ErrShut)
	}
}

// 15.4: behind the boundary neither a part nor the end.
func TestParseBoundary(t *testing.T) {
	const part = "--B|" + fieldA + "|1|"
	for _, line := range []string{"x", "B|", "B--", "-x", "- ", "-\r", "--x", "--B|", "-- ", "-- |", "--\n", "--\rx", "--\r\r", "---", " x", " -", " --", "\t--|", "\n", "\rx", "\r\r", "\r \n", "\x00", "\xff", " \n", "-|", ":", "=", "\v|"} {
		for _, ahead := range []string{"", "x|", "|", part, "x|" + part, part + part} {
			for _, behind := range []string{"", "|", "|" + fieldA + "|1|--B--"} {
				s := lines(ahead + "--B" + line + behind)
				checkParse(t, s, nil, len(lines(ahead))+3, api.ErrBoundary)
				if strings.Count(ahead, fieldA) == 1 {
					// It is no part, so not one too many.
					checkMost(t, s, 1, nil, len(lines(ahead))+3, api.ErrBoundary)
				}
			}
		}
	}
	// The end comes behind one part or more.
	for _, line := range []string{"-", "--", "--|", "--\r", "--|x"} {
		for _, ahead := range []string{"", "x|"} {
			checkParse(t, lines(ahead+"--B"+line), nil, len(lines(ahead))+3, api.ErrBoundary)
		}
	}
	// Another boundary that begins with this one.
	checkParse(t, lines(part+"--BB--"), nil, len(lines(part))+3, api.ErrBoundary)
}

// 15.4: more parts than may be, at the first byte of the first one too many, whatever it is.
func TestParseParts(t *testing.T) {
	const part = "--B|" + fieldA + "|1|"
	for most := 1; most < 6; most++ {
		for count := most; count < most+3; count++ {
			s := strings.Repeat(part, count)
			if count == most {
				checkMost(t, lines(s+"--B--"), most, slices.Repeat([]api.Part{{Name: "a", Body: "1"}}, count), 0, api.OK)
			}
			for _, behind := range []string{"--B|", "--B \t|x", "--B||", "--B|--B--", "--B|" + fieldA + "|--B", part + "--B--", part, part + "--Bx"} {
				checkMost(t, lines(s+behind), most, nil, most*len(lines(part)), api.ErrParts)
				checkMost(t, lines("ahead|"+s+behind), most, nil, 7+most*len(lines(part)), api.ErrParts)
			}
		}
	}
}

// 15.4: a line of fields that is none, or is not as it must be, at its first byte.
func TestParseFields(t *testing.T) {
	long := strings.Repeat("x", 8193)
	for _, x := range []struct {
		line string
		err  api.Errno
	}{
		{"x", api.ErrColon}, {"--B", api.ErrColon}, {"--B--", api.ErrColon}, {" a: b", api.ErrFolded}, {" ", api.ErrFolded}, {"\t", api.ErrFolded}, {": a", api.ErrName}, {"a b: c", api.ErrName}, {"a : b", api.ErrName}, {"--B x: y", api.ErrName},
		{"a: \x00", api.ErrValue}, {"a: b\nc: d", api.ErrValue}, {"a: b\r", api.ErrValue}, {"\r", api.ErrColon}, {"\n", api.ErrColon}, {"a:" + long, api.ErrValue}, {strings.Repeat("a", 129) + ":", api.ErrName}, {"Content-Disposition: " + long, api.ErrValue},
		{"Content-Disposition", api.ErrColon}, {"Content-Disposition : form-data; name=a", api.ErrName}, {"Content-Type: \x7f", api.ErrValue},
		{"Content-Disposition:", api.ErrPart}, {"Content-Disposition: form-data", api.ErrPart}, {"Content-Disposition: form-data; nam=a", api.ErrPart}, {"Content-Disposition: form-data; name", api.ErrPart}, {"Content-Disposition: form-data; name=", api.ErrPart},
		{"Content-Disposition: formdata; name=a", api.ErrPart}, {"Content-Disposition: attachment; name=a", api.ErrPart}, {"Content-Disposition: form-data name=a", api.ErrPart}, {"Content-Disposition: form-data, name=a", api.ErrPart}, {"Content-Disposition: name=a", api.ErrPart}, {"Content-Disposition: \"form-data\"; name=a", api.ErrPart},
		{"Content-Disposition: form-data; name=a; name=a", api.ErrPart}, {"Content-Disposition: form-data; name=a; Name=b", api.ErrPart}, {"Content-Disposition: form-data; name=a; filename=b; FILENAME=b", api.ErrPart}, {"Content-Disposition: form-data; name=a; x=1; X=1", api.ErrPart},
		{"Content-Disposition: form-data; name=a; filename", api.ErrPart}, {"Content-Disposition: form-data; name=a; x", api.ErrPart}, {"Content-Disposition: form-data; name=a b", api.ErrPart}, {"Content-Disposition: form-data; name=\"a", api.ErrPart}, {"Content-Disposition: form-data; filename=a", api.ErrPart}, {"Content-Disposition: form-data; name*=a", api.ErrPart},
	} {
		for _, ahead := range []string{"--B|", "x|--B \t|", "--B|Other: 1|Content-Type: a|", "--B|" + fieldA + "||--B|O:|"} {
			for _, behind := range []string{"|", "|" + fieldA, "||1|--B--", "|x|", "|\x00"} {
				checkParse(t, lines(ahead+x.line+behind), nil, len(lines(ahead)), x.err)
			}
		}
	}
	for _, ahead := range []string{"--B|" + fieldA, "--B|" + fieldB + "A: b|", "--B|" + fieldA + "||--B|Content-Type: x|" + fieldB} {
		for _, line := range []string{fieldA, fieldB, "CONTENT-disposition: x|", "Content-Disposition:|"} {
			checkParse(t, lines(ahead+line+"|1|--B--"), nil, len(lines(ahead)), api.ErrPart)
		}
	}
	for _, ahead := range []string{"--B|Content-Type: a|", "--B|Content-Type:|", "--B|" + fieldA + "content-TYPE: a|" + "A: b|"} {
		for _, line := range []string{"Content-Type: a|", "content-type:|", "CONTENT-TYPE: b|"} {
			checkParse(t, lines(ahead+line+fieldA+"|1|--B--"), nil, len(lines(ahead)), api.ErrPart)
		}
	}
}

// 15.4: no disposition at all is told at the empty line, and a boundary at once behind that line there.
func TestParsePart(t *testing.T) {
	for _, ahead := range []string{"--B|", "x|--B |", "--B|A: b|Content-Type: c|", "--B|" + fieldA + "|1|--B|", "--B|" + fieldA + "|1|--B|Disposition: form-data; name=a|"} {
		for _, behind := range []string{"", "|--B--", "--B--", "1|--B--", "x"} {
			checkParse(t, lines(ahead+"|"+behind), nil, len(lines(ahead)), api.ErrPart)
		}
	}
	for _, ahead := range []string{"--B|" + fieldA + "|", "--B|" + fieldA + "|1|--B|" + fieldB + "|", "x|--B|" + fieldB + "Content-Type: a|B: c||"} {
		for _, behind := range []string{"", "-", "--", "--|", "|", "x", "|" + fieldA + "|1|--B--", " ", "\r"} {
			checkParse(t, lines(ahead+"--B"+behind), nil, len(lines(ahead)), api.ErrPart)
		}
	}
}

func compareParse(t *testing.T, boundary, s string, most int, seen map[api.Errno]int) {
	t.Helper()
	l, at, err := sheet.Parse(boundary, s, most)
	if want, wantAt, wantErr := modelParse(boundary, s, most); !slices.Equal(l, want) || at != wantAt || err != wantErr {
		t.Fatalf("Parse(%q, %q, %d): %s, %d, %d; want %s, %d, %d", boundary, s, most, show(l), at, err, show(want), wantAt, wantErr)
	}
	for _, p := range l {
		if !strings.Contains(s, p.Body) {
			t.Fatalf("Parse(%q, %q, %d): the body %q does not stand there", boundary, s, most, p.Body)
		}
	}
	seen[err]++
}

func checkSeen(t *testing.T, seen map[api.Errno]int, least int, wanted ...api.Errno) {
	t.Helper()
	for _, err := range wanted {
		if seen[err] < least {
			t.Error("too few of", err, seen)
		}
	}
}

// 15.4, held against patterns: what comes of a right text by one byte, cut anywhere or not.
func TestParseEdits(t *testing.T) {
	seen := map[api.Errno]int{}
	s := lines("x|" + twoParts + "|y")
	for e := range edits(s, allBytes()) {
		compareParse(t, "B", e, 9, seen)
	}
	for e := range edits(s, "\r\n-B: \";") {
		compareParse(t, "B", e, 1, seen)
		for n := 0; n < len(e); n += 5 {
			compareParse(t, "B", e[:n], 2, seen)
		}
	}
	checkSeen(t, seen, 50, api.OK, api.ErrShut, api.ErrBoundary, api.ErrParts, api.ErrPart, api.ErrName, api.ErrValue, api.ErrColon, api.ErrFolded)
}

// 15.4, held against patterns: all short rows of what stands in bodies in parts, and of a few bytes.
func TestParseRows(t *testing.T) {
	seen := map[api.Errno]int{}
	pieces := []string{"--B", "--B\r\n", "\r\n", lines(fieldA), lines(fieldB), "Content-Type: c\r\n", "--", "x", "x:\r\n"}
	for s := range texts(pieces, 5) {
		compareParse(t, "B", s, 9, seen)
		compareParse(t, "B", lines("--B|"+fieldA)+s, 1, seen)
		compareParse(t, "B", lines("--B|"+fieldA+"|1|")+s, 1, seen)
	}
	for s := range texts([]string{"\r", "\n", "-", "B", " "}, 6) {
		compareParse(t, "B", s, 9, seen)
		compareParse(t, "B", "--B"+s, 9, seen)
		compareParse(t, "B", lines("--B|"+fieldA+"|1|--B")+s, 2, seen)
		compareParse(t, "B", lines("--B|"+fieldA+"|")+s+lines("|--B--"), 2, seen)
	}
	checkSeen(t, seen, 20, api.OK, api.ErrShut, api.ErrBoundary, api.ErrParts, api.ErrPart, api.ErrColon, api.ErrFolded)
}

// 15.4: boundaries that could be taken for dashes, for a field or for another one.
func TestParseBoundaries(t *testing.T) {
	seen := map[api.Errno]int{}
	for _, boundary := range []string{"-", "--", "B--", "--B", "''", "a/:=?", "a:", "BB", "B"} {
		for _, other := range []string{boundary, boundary + "-", "-" + boundary, "B"} {
			s := strings.ReplaceAll(lines("p|"+twoParts+"|e"), "B", other)
			for n := range len(s) + 1 {
				compareParse(t, boundary, s[:n], 9, seen)
				compareParse(t, boundary, s[:n]+"--", 1, seen)
			}
		}
	}
	checkSeen(t, seen, 20, api.OK, api.ErrShut, api.ErrBoundary, api.ErrParts)
}

// R1: long texts are read soon, and there is no limit but the number of parts and what a line of fields may have.
func TestParseLong(t *testing.T) {
	const n = 50000
	const part = "--B|" + fieldA + "|1|"
	body := strings.Repeat("|--C", n)
	checkParse(t, lines(strings.Repeat("|", n)+"--B|"+fieldA+"|"+body+"|--B--|"+body), []api.Part{{Name: "a", Body: lines(body)}}, 0, api.OK)
	checkParse(t, lines("--B|"+strings.Repeat("A: b|", n)+fieldA+"|1|--B--"), []api.Part{{Name: "a", Body: "1"}}, 0, api.OK)
	checkParse(t, lines("--B"+strings.Repeat(" ", n)+"|"+fieldA+"|1|--B--"), []api.Part{{Name: "a", Body: "1"}}, 0, api.OK)
	many := lines(strings.Repeat(part, n) + "--B--")
	checkMost(t, many, n, slices.Repeat([]api.Part{{Name: "a", Body: "1"}}, n), 0, api.OK)
	checkMost(t, many, n-1, nil, (n-1)*len(lines(part)), api.ErrParts)
	value := "Content-Disposition: form-data; name=" + strings.Repeat("n", 8192-len("form-data; name="))
	checkParse(t, lines("--B|"+value+"|Content-Type: "+strings.Repeat("m", 8192)+"||1|--B--"), []api.Part{{Name: strings.Repeat("n", 8192-len("form-data; name=")), Media: strings.Repeat("m", 8192), Body: "1"}}, 0, api.OK)
	checkParse(t, lines("--B|"+value+"n||1|--B--"), nil, 5, api.ErrValue)
	for _, s := range []string{strings.Repeat("\r\n--", n), strings.Repeat("\r", n), strings.Repeat("-", n), lines("--B|" + strings.Repeat("A: b|", n)), lines("--B|" + fieldA + "|" + body)} {
		checkParse(t, s, nil, len(s), api.ErrShut)
	}
}
