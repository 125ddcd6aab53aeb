package sheet_test

import (
	"strconv"
	"strings"
	"testing"

	"turnpike/api"
	"turnpike/sheet"
)

func checkIsBoundary(t *testing.T, s string, want bool) {
	t.Helper()
	if got := sheet.IsBoundary(s); got != want {
		t.Errorf("IsBoundary(%q): %v", s, got)
	}
}

// 15.2: each byte, alone, at the front, in the middle and at the end.
func TestIsBoundaryBytes(t *testing.T) {
	for _, c := range []byte(allBytes()) {
		s := string([]byte{c})
		want := strings.Contains("ABCDEFGHIJKLMNOPQRSTUVWXYZabcdefghijklmnopqrstuvwxyz0123456789'()+_,-./:=?", s)
		checkIsBoundary(t, s, want)
		checkIsBoundary(t, s+"a", want)
		checkIsBoundary(t, "a"+s+"a", want)
		checkIsBoundary(t, "a"+s, want)
	}
}

// 15.2: 1 to 70 of them.
func TestIsBoundaryLengths(t *testing.T) {
	for n := range 200 {
		checkIsBoundary(t, strings.Repeat("a", n), n >= 1 && n <= 70)
		checkIsBoundary(t, strings.Repeat("-", n), n >= 1 && n <= 70)
		checkIsBoundary(t, strings.Repeat(" ", n), false)
	}
	for _, s := range []string{"----WebKitFormBoundary7MA4YWxkTrZu0gW", "--", "'()+_,-./:=?", "form0", "0"} {
		checkIsBoundary(t, s, true)
	}
	for _, s := range []string{"a b", "a ", " a", "\"a\"", "a;b", "\xc3\xa4", "a*", "a\r\n"} {
		checkIsBoundary(t, s, false)
	}
}

func checkBoundary(t *testing.T, l []api.Part, want string) {
	t.Helper()
	got := sheet.Boundary(l)
	if got != want {
		t.Errorf("Boundary(%s): %q; want %q", show(l), got, want)
	}
	checkIsBoundary(t, got, true)
}

// in is parts that say some texts, each at another place.
func in(said ...string) []api.Part {
	l := make([]api.Part, (len(said)+3)/4)
	for i, s := range said {
		p := &l[i/4]
		*[]*string{&p.Media, &p.File, &p.Name, &p.Body}[i%4] = s
	}
	return l
}

// 15.2: wherever the text stands in the parts.
func TestBoundary(t *testing.T) {
	checkBoundary(t, nil, "form0")
	checkBoundary(t, []api.Part{{}}, "form0")
	checkBoundary(t, []api.Part{{Body: "--form0"}}, "form1")
	for _, x := range []struct{ s, want string }{
		{"hello", "form0"}, {"--form", "form0"}, {"form0", "form0"}, {"-form0", "form0"}, {"--Form0", "form0"}, {"--form 0", "form0"}, {"--form1", "form0"}, {"--forma0", "form0"},
		{"--form0", "form1"}, {"---form0", "form1"}, {"--form0--form0", "form1"}, {"--form00", "form1"}, {"--form01--form2", "form1"}, {"--form1--form0", "form2"}, {"x--form0 --form2\r\n--form1--", "form3"},
		// Where form10 stands, form1 stands, too.
		{"--form0--form10", "form2"}, {"--form0--form19999999999999999999999999999999999--form234", "form3"},
		// A number that leaves an int is none of the small ones: 2^64, 2^64 and 2, twice 2^64 and 1.
		{"--form18446744073709551616", "form0"}, {"--form0--form18446744073709551618", "form2"}, {"--form0--form36893488147419103233", "form1"},
		{"--form\x00--form0", "form1"}, {"--for--form0", "form1"}, {"--form--form0", "form1"}, {"--form0\xff", "form1"}, {"--part0", "form0"},
	} {
		for i := range 8 {
			checkBoundary(t, in(append(make([]string, i), x.s)...), x.want)
		}
	}
	checkBoundary(t, in("--form3", "--form1", "--form0", "--form2"), "form4")
	checkBoundary(t, in("--form3", "", "--form0", "--form2", "x", "--form4", "--form1"), "form5")
	// A text does not go on in the next one.
	checkBoundary(t, in("--form", "0", "--form", "1"), "form0")
	checkBoundary(t, in("--form0--form", "1", "--form0--", "form1"), "form1")
	// A file that is none counts as well.
	checkBoundary(t, []api.Part{{File: "--form0", HasFile: false}}, "form1")
}

// 15.2, held against asking one by one: all short texts, and two of them.
func TestBoundaryAll(t *testing.T) {
	for s := range texts([]string{"--form", "0", "1", "2", "3", "-", "f"}, 6) {
		if got, want := sheet.Boundary(in(s)), modelBoundary(in(s)); got != want {
			t.Fatalf("Boundary(%q): %q; want %q", s, got, want)
		}
	}
	for l := range lists([]string{"--form0", "--form1", "--form2", "--form10", "--form", "0", "--form3--form21"}, 5) {
		if got, want := sheet.Boundary(in(l...)), modelBoundary(in(l...)); got != want {
			t.Fatalf("Boundary(%q): %q; want %q", l, got, want)
		}
	}
	var all []string
	for n := range 120 {
		checkBoundary(t, in(all...), modelBoundary(in(all...)))
		all = append(all, "--form"+strconv.Itoa(n))
	}
	for n := range all {
		kept := all[n]
		all[n] = ""
		checkBoundary(t, in(all...), modelBoundary(in(all...)))
		all[n] = kept
	}
}

// 15.2 and R1: a great many of them, in one text and in many.
func TestBoundaryLong(t *testing.T) {
	const n = 100000
	var said []string
	for i := range n {
		said = append(said, "--form"+strconv.Itoa(n-1-i))
	}
	want := "form" + strconv.Itoa(n)
	checkBoundary(t, in(said...), want)
	checkBoundary(t, in(strings.Join(said, "")), want)
	checkBoundary(t, in(strings.Repeat("--form", n)+"0"), "form1")
	checkBoundary(t, in("--form0--form"+strings.Repeat("1", n)), "form2")
	checkBoundary(t, in(strings.Repeat("-", n)), "form0")
}
