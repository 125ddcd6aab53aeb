package sheet_test

import (
	"io"
	"mime/multipart"
	"slices"
	"strings"
	"testing"

	"turnpike/api"
	"turnpike/sheet"
)

func checkPrint(t *testing.T, boundary string, l []api.Part, want string, wantErr api.Errno) {
	t.Helper()
	if s, err := sheet.Print(boundary, l); s != want || err != wantErr {
		t.Errorf("Print(%q, %s): %.300q, %d; want %.300q, %d", boundary, show(l), s, err, want, wantErr)
	}
}

// 15.5: the lines of each part.
func TestPrint(t *testing.T) {
	checkPrint(t, "B", []api.Part{{Name: "f", File: "x.txt", HasFile: true, Media: "text/plain", Body: "hi"}},
		lines("--B|Content-Disposition: form-data; name=\"f\"; filename=\"x.txt\"|Content-Type: text/plain||hi|--B--|"), api.OK)
	checkPrint(t, "B", []api.Part{{}}, lines("--B|Content-Disposition: form-data; name=\"\"|||--B--|"), api.OK)
	checkPrint(t, "B", []api.Part{{Name: "a\\\"", HasFile: true}, {Name: " \t\xff", Media: "m", Body: "|"}, {Body: "-- B"}},
		"--B\r\nContent-Disposition: form-data; name=\"a\\\\\\\"\"; filename=\"\"\r\n\r\n\r\n--B\r\nContent-Disposition: form-data; name=\" \t\xff\"\r\nContent-Type: m\r\n\r\n|\r\n--B\r\nContent-Disposition: form-data; name=\"\"\r\n\r\n-- B\r\n--B--\r\n", api.OK)
	checkPrint(t, "-'()+_,./:=?", []api.Part{{Name: "n", Body: "\x00\r\n\xff"}}, "---'()+_,./:=?\r\nContent-Disposition: form-data; name=\"n\"\r\n\r\n\x00\r\n\xff\r\n---'()+_,./:=?--\r\n", api.OK)
}

// 15.5: a boundary that is none, or stands in a part: ahead of no parts, ahead of a part that is not right, whichever comes first.
func TestPrintBoundary(t *testing.T) {
	bad := api.Part{Name: "\n"}
	for _, boundary := range []string{"", " ", "a b", "\xff", "B\r\n", "*", strings.Repeat("B", 71)} {
		checkPrint(t, boundary, []api.Part{{Name: "a"}}, "", api.ErrBoundary)
		checkPrint(t, boundary, nil, "", api.ErrBoundary)
		checkPrint(t, boundary, []api.Part{bad}, "", api.ErrBoundary)
	}
	for i := range 8 {
		for _, s := range []string{"--B", "x--By", "---B", "\r\n--B\r\n", "--BB", "-----B--"} {
			l := in(append(make([]string, i), s)...)
			checkPrint(t, "B", l, "", api.ErrBoundary)
			checkPrint(t, "B", append([]api.Part{bad}, l...), "", api.ErrBoundary)
			checkPrint(t, "B", append(l, bad), "", api.ErrBoundary)
		}
	}
	long := strings.Repeat("B", 70)
	if _, err := sheet.Print(long, []api.Part{{Name: "a", Body: "--" + long[1:]}}); err != api.OK {
		t.Error("a boundary of 70 bytes:", err)
	}
	checkPrint(t, long, []api.Part{{Body: "--" + long}}, "", api.ErrBoundary)
	// Neither does it stand there across two texts, nor without its dashes, nor in the lines themselves.
	for _, l := range [][]api.Part{{{Name: "--", File: "B", HasFile: true}}, {{Name: "B", Body: "-B", Media: "B--"}}, {{Body: "--b"}}, {{Body: "--"}, {Name: "B"}}} {
		want, _ := modelPrint("B", l)
		checkPrint(t, "B", l, want, api.OK)
	}
	checkPrint(t, "form-data", []api.Part{{Name: "form-data"}}, "--form-data\r\nContent-Disposition: form-data; name=\"form-data\"\r\n\r\n\r\n--form-data--\r\n", api.OK)
}

// 15.5: no parts.
func TestPrintParts(t *testing.T) {
	checkPrint(t, "B", nil, "", api.ErrParts)
	checkPrint(t, "B", []api.Part{}, "", api.ErrParts)
}

// 15.5: parts that are not right, wherever they stand.
func TestPrintPart(t *testing.T) {
	bad := []api.Part{{File: "f"}, {File: " "}, {Media: " m"}, {Media: "m "}, {Media: "\tm"}, {Media: "m\t"}, {Media: " "}, {Media: "\t"}}
	for _, c := range []byte(allBytes()) {
		s := "a" + string([]byte{c}) + "b"
		parts := []api.Part{{Name: s}, {HasFile: true, File: s}, {Media: s}}
		if c < ' ' && c != '\t' || c == 127 {
			bad = append(bad, parts...)
			continue
		}
		for _, p := range parts {
			want, _ := modelPrint("B", []api.Part{p})
			checkPrint(t, "B", []api.Part{p}, want, api.OK)
		}
	}
	for _, p := range bad {
		checkPrint(t, "B", []api.Part{p}, "", api.ErrPart)
		checkPrint(t, "B", []api.Part{{Name: "a"}, p}, "", api.ErrPart)
		checkPrint(t, "B", []api.Part{p, {Name: "a"}}, "", api.ErrPart)
	}
}

// 15.5: the longest lines that there may be, and one byte more; what is quoted counts as it is written.
func TestPrintLong(t *testing.T) {
	room := 8192 - len(`form-data; name=""`)
	both := room - len(`; filename=""`)
	for _, x := range []struct{ right, wrong api.Part }{
		{api.Part{Name: strings.Repeat("n", room)}, api.Part{Name: strings.Repeat("n", room+1)}},
		{api.Part{Name: strings.Repeat("n", room-2) + `"`}, api.Part{Name: strings.Repeat("n", room-1) + `"`}},
		{api.Part{File: strings.Repeat("f", both), HasFile: true}, api.Part{File: strings.Repeat("f", both+1), HasFile: true}},
		{api.Part{Name: strings.Repeat("n", both), HasFile: true}, api.Part{Name: strings.Repeat("n", both), File: "f", HasFile: true}},
		{api.Part{Media: strings.Repeat("m", 8192)}, api.Part{Media: strings.Repeat("m", 8193)}},
	} {
		s, err := sheet.Print("B", []api.Part{x.right})
		if err != api.OK {
			t.Fatal("Print:", err)
		}
		checkParse(t, s, []api.Part{x.right}, 0, api.OK)
		checkPrint(t, "B", []api.Part{x.wrong}, "", api.ErrPart)
		checkPrint(t, "B", []api.Part{{}, x.wrong}, "", api.ErrPart)
	}
	const n = 50000
	many := slices.Repeat([]api.Part{{Name: "a", Body: "1"}}, n)
	s, err := sheet.Print("B", many)
	if err != api.OK {
		t.Fatal("Print:", err)
	}
	checkMost(t, s, n, many, 0, api.OK)
}

// someParts is parts of all ways in which some texts come together; some of them can't be printed.
func someParts() []api.Part {
	var l []api.Part
	for _, name := range []string{"", "a", "\"; name=x", "\\", "--b"} {
		for _, file := range []string{"", "f.txt", "\"\\ \xff"} {
			for _, media := range []string{"", "t/p", "m; a=\"b\"", " m"} {
				for _, body := range []string{"", "\r\n", "--", "\r\n--", "\r", "x\r\n--b\r\n", "--B"} {
					l = append(l, api.Part{Name: name, File: file, HasFile: file != "", Media: media, Body: body}, api.Part{Name: name, File: file, HasFile: file == "", Media: media, Body: body})
				}
			}
		}
	}
	return l
}

// 15.5, sentence by sentence, and 15.6: what is printed is read back, whatever preamble and epilogue are put in.
func TestPrintThereAndBack(t *testing.T) {
	printed := 0
	check := func(boundary string, l []api.Part) {
		want, wantErr := modelPrint(boundary, l)
		checkPrint(t, boundary, l, want, wantErr)
		if wantErr != api.OK {
			return
		}
		printed++
		for _, ahead := range []string{"", "\r\n", "preamble\r\n", "--\r\n", "x--" + boundary + "\r\n"} {
			for _, behind := range []string{"", "epilogue", "\r\n--" + boundary + "\r\n", "--" + boundary + "x"} {
				got, at, err := sheet.Parse(boundary, ahead+want+behind, len(l))
				if !slices.Equal(got, l) || at != 0 || err != api.OK {
					t.Fatalf("Parse(%q, %q): %s, %d, %d; want %s", boundary, ahead+want+behind, show(got), at, err, show(l))
				}
			}
		}
		if len(l) > 1 {
			last, _ := modelPrint(boundary, l[len(l)-1:])
			at := len(want) - len(last)
			if got, place, err := sheet.Parse(boundary, want, len(l)-1); len(got) != 0 || place != at || err != api.ErrParts {
				t.Fatalf("Parse(%q, %q, %d): %s, %d, %d; want %d", boundary, want, len(l)-1, show(got), place, err, at)
			}
		}
	}
	some := someParts()
	for i, p := range some {
		for _, boundary := range []string{"B", "b", "-", "x.y", "form-data"} {
			check(boundary, []api.Part{p})
			check(boundary, []api.Part{p, some[(i*7+3)%len(some)]})
			check(boundary, []api.Part{some[(i*5+1)%len(some)], p, some[(i*11+2)%len(some)]})
		}
	}
	if printed < 1000 {
		t.Error("too few were printed:", printed)
	}
}

// 15.2 and 15.5: with the boundary that Boundary answers there is no ErrBoundary.
func TestPrintOwnBoundary(t *testing.T) {
	for l := range lists([]string{"--form0", "--form1", "--form10", "--form2", "x", ""}, 5) {
		parts := in(l...)
		for i := range parts {
			parts[i].HasFile = parts[i].File != ""
		}
		parts = append(parts, api.Part{})
		boundary := sheet.Boundary(parts)
		want, _ := modelPrint(boundary, parts)
		checkPrint(t, boundary, parts, want, api.OK)
	}
}

// 15.5, held against the library's reader of such bodies.
func TestPrintForOthers(t *testing.T) {
	l := []api.Part{{Name: "a", Body: "1"}, {Name: "b \"c\\", Media: "text/plain", Body: "x\r\n--y\r\n"}, {Name: "f", File: "x \"1\".txt", HasFile: true, Media: "a/b; c=d", Body: ""}, {Name: "last", Body: "\x00\xff"}}
	s, err := sheet.Print("form0", l)
	if err != api.OK {
		t.Fatal("Print:", err)
	}
	r := multipart.NewReader(strings.NewReader(s), "form0")
	for _, want := range l {
		p, err := r.NextPart()
		if err != nil {
			t.Fatal(err)
		}
		body, err := io.ReadAll(p)
		if p.FormName() != want.Name || p.FileName() != want.File || p.Header.Get("Content-Type") != want.Media || string(body) != want.Body || err != nil {
			t.Errorf("%q, %q, %q, %q, %v; want %s", p.FormName(), p.FileName(), p.Header, body, err, show(want))
		}
	}
	if _, err := r.NextPart(); err != io.EOF {
		t.Error("a part more:", err)
	}
}
