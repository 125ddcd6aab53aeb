package tag_test

import (
	"slices"
	"strings"
	"testing"

	"turnpike/api"
	"turnpike/tag"
)

func strong(text string) api.Tag { return api.Tag{Text: text} }
func weak(text string) api.Tag   { return api.Tag{Weak: true, Text: text} }

// most is a text with as many bytes as a tag may have.
var most = strings.Repeat("x", api.MaxTag)

// 8.1, the example 1.
func TestParse(t *testing.T) {
	for s, want := range map[string]api.Tag{
		`"a"`: strong("a"), `W/""`: weak(""), `""`: strong(""), `W/"a"`: weak("a"), `"W/a"`: strong("W/a"), `"a,b"`: strong("a,b"), `"\"`: strong(`\`), `"*"`: strong("*"),
		"\"!#~\x80\xff\"": strong("!#~\x80\xff"), `"` + most + `"`: strong(most), `W/"` + most + `"`: weak(most), `"ü"`: strong("ü"), `"'"`: strong("'"),
	} {
		if got, at, err := tag.Parse(s); got != want || at != 0 || err != api.OK {
			t.Errorf("Parse(%q): %v, %d, %d", s, got, at, err)
		}
	}
	for s, want := range map[string]int{
		`w/"a"`: 0, `"a`: 2, `"a"b`: 3, `"a b"`: 2, "": 0,
		`a`: 0, `*`: 0, ` "a"`: 0, `"a" `: 3, `"a""`: 3, `"a", "b"`: 3, `"a"` + "\n": 3, `"`: 1, `W`: 1, `W/`: 2, `W/"`: 3, `W/"a`: 4, `W"a"`: 1, `W /"a"`: 1, `W/ "a"`: 2, `W/a"`: 2,
		`W/W/"a"`: 2, `W\"a"`: 1, `/"a"`: 0, `'a'`: 0, "\"\x7f\"": 1, "\"\x00\"": 1, "\"a\t\"": 2, "\"\x80\x1f": 2, `W/"a"W`: 5, `WW/"a"`: 1,
		`"` + most: 257, `"` + most + `x"`: 257, `"` + most + ` `: 257, `W/"` + most: 259, `W/"` + most + `x"`: 259, `"` + most + `""`: 258, `"` + most + `x`: 257,
	} {
		if got, at, err := tag.Parse(s); got != (api.Tag{}) || at != want || err != api.ErrTag {
			t.Errorf("Parse(%q): %v, %d, %d; want %d", s, got, at, err, want)
		}
	}
}

func checkParse(t *testing.T, s string) {
	t.Helper()
	want, wantAt, wantErr := modelParse(s)
	if got, at, err := tag.Parse(s); got != want || at != wantAt || err != wantErr {
		t.Fatalf("Parse(%q): %v, %d, %d; want %v, %d, %d", s, got, at, err, want, wantAt, wantErr)
	}
}

// 8.1: all short texts, held against a pattern; and each byte at each place.
func TestParseAgainstPattern(t *testing.T) {
	for s := range texts([]string{`"`, "W", "/", "a", " ", ",", "w"}, 6) {
		checkParse(t, s)
	}
	for c := range 256 {
		b := string([]byte{byte(c)})
		for _, s := range []string{b, b + `"`, b + `/"a"`, "W" + b, "W" + b + `"a"`, "W/" + b, "W/" + b + `a"`, `"` + b, `"` + b + `"`, `"a` + b + `c"`, `"a"` + b, `W/"` + b + `"`, `W/"a"` + b} {
			checkParse(t, s)
		}
	}
}

// 8.1: the lengths around MaxTag.
func TestParseOfLengths(t *testing.T) {
	for n := api.MaxTag - 2; n <= api.MaxTag+2; n++ {
		for _, front := range []string{`"`, `W/"`} {
			for _, end := range []string{"", `"`, `""`, " ", ` "`, "x"} {
				checkParse(t, front+strings.Repeat("\xff", n)+end)
			}
		}
	}
}

// 8.1.
func TestPrint(t *testing.T) {
	for want, x := range map[string]api.Tag{
		`"a"`: strong("a"), `W/"a"`: weak("a"), `""`: strong(""), `W/""`: weak(""), `"W/"`: strong("W/"), `"a,b"`: strong("a,b"), `"\"`: strong(`\`),
		`"` + most + `"`: strong(most), `W/"` + most + `"`: weak(most), "\"\xff\x80\"": strong("\xff\x80"),
	} {
		if s, err := tag.Print(x); s != want || err != api.OK {
			t.Errorf("Print(%v): %q, %d", x, s, err)
		}
	}
	for _, text := range []string{`"`, `a"`, `"a`, `a"b`, `""`, `","`, `" "`, " ", "a b", "a ", " a", "\t", "\x7f", "\x00", "\x1f", "\n", most + "x", most + `"`, most + " ", most + most} {
		for _, x := range []api.Tag{strong(text), weak(text)} {
			if s, err := tag.Print(x); s != "" || err != api.ErrTag {
				t.Errorf("Print(%v): %q, %d", x, s, err)
			}
		}
	}
}

// 8.1, 8.6: of each byte, and of all short texts: what is printed is read back, and only what is of tags is printed.
func TestParseOfPrint(t *testing.T) {
	var all []string
	for c := range 256 {
		b := string([]byte{byte(c)})
		all = append(all, b, "a"+b, b+"a", most[1:]+b, most+b)
	}
	for s := range texts([]string{"", `"`, "W", "/", "a", ",", `\`, "\xfe", " "}, 4) {
		all = append(all, s)
	}
	for _, text := range all {
		right := len(text) <= 256
		for _, c := range []byte(text) {
			right = right && (c == 33 || c >= 35 && c <= 126 || c >= 128)
		}
		for _, x := range []api.Tag{strong(text), weak(text)} {
			s, err := tag.Print(x)
			if right != (err == api.OK) {
				t.Fatalf("Print(%v): %q, %d", x, s, err)
			}
			if got, at, err := tag.Parse(s); right && (got != x || at != 0 || err != api.OK) {
				t.Fatalf("Parse(%q): %v, %d, %d", s, got, at, err)
			}
		}
	}
}

// 8.2, the example 2.
func TestList(t *testing.T) {
	for s, want := range map[string][]api.Tag{
		`"a,b" , W/"c"`: {strong("a,b"), weak("c")},
		`"a"`:           {strong("a")}, ` "a" `: {strong("a")}, "\t\"a\"\t": {strong("a")}, `""`: {strong("")}, `W/""`: {weak("")},
		`"a","b"`: {strong("a"), strong("b")}, `"a" ,	"b"`: {strong("a"), strong("b")}, `,"a",,"b",`: {strong("a"), strong("b")}, ` , "a" , , "b" , `: {strong("a"), strong("b")},
		`"\","b"`: {strong(`\`), strong("b")}, `"\,"`: {strong(`\,`)}, `"*"`: {strong("*")}, `"a","a"`: {strong("a"), strong("a")}, `W/"a","a"`: {weak("a"), strong("a")},
		`"b","a",W/"b"`: {strong("b"), strong("a"), weak("b")}, `"` + most + `",W/"` + most + `"`: {strong(most), weak(most)},
	} {
		if got, all, at, err := tag.List(s); !slices.Equal(got, want) || all || at != 0 || err != api.OK {
			t.Errorf("List(%q): %v, %t, %d, %d", s, got, all, at, err)
		}
	}
	for _, s := range []string{"*", " * ", " *", "*\t", "\t \t* \t"} {
		if got, all, at, err := tag.List(s); len(got) != 0 || !all || at != 0 || err != api.OK {
			t.Errorf("List(%q): %v, %t, %d, %d", s, got, all, at, err)
		}
	}
}

// 8.2, the example 2: wrong texts and their places.
func TestListRefuses(t *testing.T) {
	for s, want := range map[string]int{
		"*,": 0, ",,": 2, `"a" "b"`: 4,
		"": 0, " ": 1, "\t ": 2, ",": 1, " , ": 3, ", ,\t": 4, "**": 0, "* *": 0, "  **": 2, ", *": 2, `*, "a"`: 0, ` *, "a"`: 1, `"a", *`: 5, `"a"*`: 3, "a": 0, "  a": 2, " , a": 3,
		`"a""b"`: 3, `"a"W/"b"`: 3, ` "a" b`: 5, `"a", b`: 5, `"a" ;`: 4, `"a`: 2, `"a `: 3, ` "a `: 4, `"a, "b"`: 3, `"a","b`: 6, `"a","b  `: 8, `"a b"`: 2, `  "a b"  `: 4,
		"W": 1, "W ": 2, "  W": 3, "W/ ": 3, ` W/" `: 5, `"a", W/`: 7, `W "a"`: 1, `W/ "a"`: 2, `W, "a"`: 1, `  W, "a"`: 3, `w/"a"`: 0, `"a",w/"a"`: 4, "\x00": 0, "\n\"a\"": 0, "\"a\"\n": 3, `"a"` + "\r": 3,
		`"` + most + `x"`: 257, `"a","` + most + `x"`: 261, `"a","` + most: 261, `"a","` + most + "  ": 263, "\"a\"\x0b,\"b\"": 3, `,"`: 2, `, "  `: 5,
	} {
		if got, all, at, err := tag.List(s); len(got) != 0 || all || at != want || err != api.ErrTags {
			t.Errorf("List(%q): %v, %t, %d, %d; want %d", s, got, all, at, err, want)
		}
	}
}

func checkList(t *testing.T, s string) {
	t.Helper()
	want, wantAll, wantAt, wantErr := modelList(s)
	if got, all, at, err := tag.List(s); !slices.Equal(got, want) || all != wantAll || at != wantAt || err != wantErr {
		t.Fatalf("List(%q): %v, %t, %d, %d; want %v, %t, %d, %d", s, got, all, at, err, want, wantAll, wantAt, wantErr)
	}
}

// 8.2: all short texts, held against patterns; and each byte at each place.
func TestListAgainstPattern(t *testing.T) {
	for s := range texts([]string{`"`, "W/", "a", " ", ",", "*"}, 6) {
		checkList(t, s)
	}
	for s := range texts([]string{`"a"`, `W/"a"`, `"\,"`, "\t", ",", "W", `"`}, 5) {
		checkList(t, s)
	}
	for c := range 256 {
		b := string([]byte{byte(c)})
		for _, s := range []string{b, " " + b, "," + b, "*" + b, b + "*", `"a"` + b, `"a" ` + b, `"a",` + b, `"a"` + b + `"b"`, `"a"` + b + `,"b"`, `"a",` + b + `"b"`, b + `"a"`, `"a` + b + `b"`, " W" + b, "W/" + b, `"a` + b} {
			checkList(t, s)
		}
	}
}

// 8.6: a list of tags that were printed, with commas and blanks between.
func TestListOfPrinted(t *testing.T) {
	some := []api.Tag{strong("a"), weak("a"), strong(""), weak(","), strong(`\`), weak("*"), strong(most)}
	for _, between := range []string{",", ", ", " ,", "\t,\t", ",,", " , , "} {
		for l := range lists(some, 3) {
			var printed []string
			for _, x := range l {
				s, err := tag.Print(x)
				if err != api.OK {
					t.Fatal(x, err)
				}
				printed = append(printed, s)
			}
			s := strings.Join(printed, between)
			if got, all, at, err := tag.List(s); len(l) > 0 && (!slices.Equal(got, l) || all || at != 0 || err != api.OK) {
				t.Fatalf("List(%q): %v, %t, %d, %d", s, got, all, at, err)
			}
		}
	}
}
