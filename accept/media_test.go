package accept_test

import (
	"slices"
	"strings"
	"testing"

	"turnpike/accept"
	"turnpike/api"
)

// has is a parameter with a value, bare one without.
func has(name, value string) api.Param { return api.Param{Name: name, Value: value, Has: true} }

func bare(name string) api.Param { return api.Param{Name: name} }

// media is a media type, or a range, of its parts.
func media(kind, sub string, params ...api.Param) api.Media {
	return api.Media{Type: kind, Sub: sub, Params: params}
}

func sameMedia(a, b api.Media) bool {
	return a.Type == b.Type && a.Sub == b.Sub && slices.Equal(a.Params, b.Params)
}

func checkParse(t *testing.T, s string, want api.Media, wantErr api.Errno) {
	t.Helper()
	if got, err := accept.Parse(s); !sameMedia(got, want) || err != wantErr {
		t.Fatalf("Parse(%q): %v, %d; want %v, %d", s, got, err, want, wantErr)
	}
}

// 7.1, the example 1.
func TestParse(t *testing.T) {
	for _, x := range []struct {
		s    string
		want api.Media
	}{
		{"Text/HTML; Charset=\"utf-8\"", media("text", "html", has("charset", "utf-8"))},
		{"a/b", media("a", "b")},
		{" \ta/b\t ", media("a", "b")},
		{"A/B", media("a", "b")},
		{"a/b;", media("a", "b")},
		{"a/b ; ; ", media("a", "b")},
		{"a/b\t;\tc=d", media("a", "b", has("c", "d"))},
		{"a/b;c=D;C=d;c=d", media("a", "b", has("c", "D"), has("c", "d"), has("c", "d"))},
		{"a/b;Q=0.5;Z=1", media("a", "b", has("q", "0.5"), has("z", "1"))},
		{`a/b;c=""`, media("a", "b", has("c", ""))},
		{`a/b;c="x;y, \"z\\"`, media("a", "b", has("c", `x;y, "z\`))},
		{`a/b;c=" \` + "\xff" + `\A "`, media("a", "b", has("c", " \xffA "))},
		{"*/*", media("*", "*")},
		{"a/*", media("a", "*")},
		{"*/b", media("*", "b")},
		{"application/vnd.x+json", media("application", "vnd.x+json")},
		{"!#$%&'*+-.^_`|~/09azAZ", media("!#$%&'*+-.^_`|~", "09azaz")},
		{strings.Repeat("A", 9999) + "/b", media(strings.Repeat("a", 9999), "b")},
	} {
		checkParse(t, x.s, x.want, api.OK)
	}
}

// 7.1, the example 1: wrong ones.
func TestParseWrong(t *testing.T) {
	for _, s := range []string{
		"text", "text/", "a/b;c", "a/b x", "", " ", "/", "/b", "a//b", "a/b/c", "a /b", "a/ b", "a/b,c/d", ";c=d", "a/;c=d", "a;c=d", "a;c=/b",
		"a/b;c=", "a/b;c= d", "a/b;c =d", "a/b;c=d;e", "a/b;e;c=d", "a/b;=d", "a/b;c=d e", "a/b;c=d,", "a/b c=d", `a/b;c="d`, `a/b;c="d"e`, `a/"b"`, "a/b;c=\"\n\"",
		"a/b\n", "\na/b", "a/b;c=d\r", "a/\xe4", "\xe4/b", "a/b;c=\xe4", "a/b\x00", "a=b/c", "a/b=c", "a/b;c/d=e",
	} {
		checkParse(t, s, api.Media{}, api.ErrMedia)
	}
}

// 7.1: all short texts, held against patterns.
func TestParseAgainstPattern(t *testing.T) {
	for s := range texts([]string{"A", "/", ";", "=", `"`, " ", "*"}, 6) {
		want, err := modelParse(s)
		checkParse(t, s, want, err)
	}
	for s := range texts([]string{"X", "/", ";", "=", `"`, `\`, "\t", "\x00"}, 5) {
		want, err := modelParse("a/b;y" + s)
		checkParse(t, "a/b;y"+s, want, err)
	}
}

// 7.1: each byte at each place.
func TestParseEachByte(t *testing.T) {
	for c := range 256 {
		b := string([]byte{byte(c)})
		for _, s := range []string{b, b + "a/b", "a" + b + "/b", "a/" + b, "a/b" + b, "a/b;" + b + "=d", "a/b;c=" + b, "a/b;c=d" + b, `a/b;c="` + b + `"`, `a/b;c="\` + b + `"`, "a" + b + "b", "a/b" + b + "c=d", "a/b;c" + b + "d"} {
			want, err := modelParse(s)
			checkParse(t, s, want, err)
		}
	}
}

// 7.1, the example 1.
func TestPrint(t *testing.T) {
	for _, x := range []struct {
		m    api.Media
		want string
	}{
		{media("text", "html", has("charset", "utf-8")), "text/html; charset=utf-8"},
		{media("a", "b"), "a/b"},
		{media("*", "*"), "*/*"},
		{media("a", "b", has("c", ""), has("c", "D e"), has("0", `"\`)), `a/b; c=""; c="D e"; 0="\"\\"`},
		{media("a", "b", has("q", "x\xff\t")), "a/b; q=\"x\xff\t\""},
	} {
		if got, err := accept.Print(x.m); got != x.want || err != api.OK {
			t.Errorf("Print(%v): %q, %d", x.m, got, err)
		}
	}
	for _, m := range []api.Media{
		{}, media("", "b"), media("a", ""), media("A", "b"), media("a", "bZ"), media("a b", "c"), media("a", "b/c"), media("a", "b\xff"), media("a ", "b"),
		media("a", "b", bare("c")), media("a", "b", has("c", "d"), bare("e")), media("a", "b", api.Param{Name: "c", Value: "d"}),
		media("a", "b", has("C", "d")), media("a", "b", has("c", "d"), has("dZ", "d")), media("a", "b", has("", "d")), media("a", "b", has("c d", "e")),
		media("a", "b", has("c", "\n")), media("a", "b", has("c", "\x7f")), media("a", "b", has("c", "d\x00"), has("e", "f")),
	} {
		if got, err := accept.Print(m); got != "" || err != api.ErrMedia {
			t.Errorf("Print(%v): %q, %d", m, got, err)
		}
	}
}

// 7.1: each byte in each part; and Parse of what is printed is what was.
func TestPrintEachByte(t *testing.T) {
	for c := range 256 {
		b := string([]byte{byte(c)})
		sign := strings.Contains("abcdefghijklmnopqrstuvwxyz0123456789!#$%&'*+-.^_`|~", b)
		ofField := c == 9 || c >= 32 && c != 127
		checkPrinted(t, media(b, "b"), sign)
		checkPrinted(t, media("a", "b"+b), sign)
		checkPrinted(t, media("a", "b", has("x"+b, "y")), sign)
		checkPrinted(t, media("a", "b", has("x", b)), ofField)
		checkPrinted(t, media("a", "b", has("x", "y"), has("x", b+"y"+b)), ofField)
	}
}

func checkPrinted(t *testing.T, m api.Media, can bool) {
	t.Helper()
	s, err := accept.Print(m)
	if !can {
		if s != "" || err != api.ErrMedia {
			t.Errorf("Print(%v): %q, %d", m, s, err)
		}
		return
	}
	if got, errBack := accept.Parse(s); err != api.OK || errBack != api.OK || !sameMedia(got, m) {
		t.Errorf("Print(%v): %q, %d; read back: %v, %d", m, s, err, got, errBack)
	}
}

// 7.1, T8: what is read can be printed, and read back it is the same.
func TestPrintOfParse(t *testing.T) {
	n := 0
	for s := range texts([]string{"A", ";", "=", `"`, `\`, " ", "*"}, 6) {
		if m, err := accept.Parse("Ab/*c;D" + s); err == api.OK {
			n++
			checkPrinted(t, m, true)
		}
	}
	if n < 100 {
		t.Error("too few media types:", n)
	}
}

// 7.5
func TestMeets(t *testing.T) {
	html := media("text", "html", has("level", "1"), has("charset", "UTF-8"))
	for _, x := range []struct {
		r, m api.Media
		want bool
	}{
		{media("*", "*"), html, true},
		{media("text", "*"), html, true},
		{media("text", "html"), html, true},
		{media("TEXT", "Html"), html, true},
		{media("text", "html"), media("Text", "HTML"), true},
		{media("text", "plain"), html, false},
		{media("image", "*"), html, false},
		{media("image", "html"), html, false},
		{media("*", "html"), html, true},
		{media("*", "plain"), html, false},
		{media("text", "html", has("level", "1")), html, true},
		{media("*", "*", has("level", "1")), html, true},
		{media("*", "*", has("level", "2")), html, false},
		{media("text", "*", has("CHARSET", "UTF-8"), has("Level", "1")), html, true},
		{media("text", "html", has("charset", "utf-8")), html, false},
		{media("text", "html", has("level", "1"), has("level", "1"), has("level", "1")), html, true},
		{media("text", "html", has("level", "1"), has("level", "2")), html, false},
		{media("text", "html", has("level", "1"), has("x", "1")), html, false},
		{media("text", "html", has("level", "")), html, false},
		{media("text", "html", api.Param{Name: "level", Value: "1"}), html, true},
		{media("a", "b", bare("x")), media("a", "b", has("x", "")), true},
		{media("a", "b", has("X", "")), media("a", "b", bare("x")), true},
		{media("a", "b", bare("x")), media("a", "b", has("x", "1")), false},
		{media("a", "b", bare("x")), media("a", "b"), false},
		{media("a", "b", has("x", "1")), media("a", "b", has("x", "2"), has("X", "1")), true},
		{media("a", "b"), media("*", "*"), false},
		{media("a", "*"), media("*", "b"), false},
		{media("*", "*"), media("*", "*"), true},
		{media("*", "*"), api.Media{}, true},
		{api.Media{}, html, false},
		{api.Media{}, api.Media{}, true},
		{media("\xc0", "b"), media("\xe0", "b"), false},
		{media("**", "**"), html, false},
	} {
		if got := accept.Meets(x.r, x.m); got != x.want {
			t.Errorf("Meets(%v, %v): %v", x.r, x.m, got)
		}
	}
}

// 7.5: all small ranges and media types, held against the words.
func TestMeetsAgainstWords(t *testing.T) {
	params := slices.Collect(lists([]api.Param{has("x", "1"), has("X", "1"), has("x", "v"), has("x", "V"), bare("y"), has("y", "")}, 2))
	var all []api.Media
	for _, kind := range []string{"*", "a", "A", "b", ""} {
		for _, sub := range []string{"*", "a", "A", "b"} {
			for _, l := range params {
				all = append(all, media(kind, sub, l...))
			}
		}
	}
	for _, r := range all {
		for _, m := range all {
			if got := accept.Meets(r, m); got != modelMeets(r, m) {
				t.Fatalf("Meets(%v, %v): %v", r, m, got)
			}
		}
	}
}
