package octet_test

import (
	"regexp"
	"slices"
	"testing"

	"turnpike/api"
	"turnpike/octet"
)

// wholeList is a list in which each double quote outside of a quoted text begins one; elementOfList is what stands between two commas. Both over the bytes that listPieces has.
var (
	wholeList     = regexp.MustCompile(`^(?s:[^"]|"(?:\\[^\x00]|[^"\\\x00])*")*$`)
	elementOfList = regexp.MustCompile(`(?s:[^",]|"(?:\\[^\x00]|[^"\\\x00])*")+`)
)

var listPieces = []string{`"`, `\`, ",", "a", " ", "\x00"}

// 1.6
func TestList(t *testing.T) {
	for _, x := range []struct {
		s    string
		want []string
	}{
		{" a , ,b,\"c,d\" e", []string{"a", "b", `"c,d" e`}},
		{"", nil},
		{",,", nil},
		{" \t,\t ", nil},
		{"a", []string{"a"}},
		{"a,b", []string{"a", "b"}},
		{",a,", []string{"a"}},
		{"\ta b\t,\tc", []string{"a b", "c"}},
		{`""`, []string{`""`}},
		{`"",""`, []string{`""`, `""`}},
		{`a"b,c"d,e`, []string{`a"b,c"d`, "e"}},
		{`"a\",b",c`, []string{`"a\",b"`, "c"}},
		{`"a""b,c"`, []string{`"a""b,c"`}},
		{`\,\`, []string{`\`, `\`}},
		{`" a "`, []string{`" a "`}},
		{"a\n,\x00", []string{"a\n", "\x00"}},
		{"b,a,b", []string{"b", "a", "b"}},
	} {
		if got, err := octet.List(x.s); !slices.Equal(got, x.want) || err != api.OK {
			t.Errorf("List(%q): %q, %d", x.s, got, err)
		}
	}
	for _, s := range []string{`a"b`, `"`, `a,"`, `"a" "b`, `"a\"`, `\"`, "\"\n\"", "a, \"b\x7f\", c", `"""`} {
		if got, err := octet.List(s); len(got) != 0 || err != api.ErrList {
			t.Errorf("List(%q): %q, %d", s, got, err)
		}
	}
}

// 1.6
func TestTokens(t *testing.T) {
	for _, x := range []struct {
		s    string
		want []string
		err  api.Errno
	}{
		{"close, Keep-Alive", []string{"close", "Keep-Alive"}, api.OK},
		{"", nil, api.OK},
		{" , ,", nil, api.OK},
		{",a,,\tb ,", []string{"a", "b"}, api.OK},
		{"a b", nil, api.ErrToken},
		{"a, b/c", nil, api.ErrToken},
		{"a\xff", nil, api.ErrToken},
		{`a, "b"`, nil, api.ErrToken},
		{`a"b`, nil, api.ErrList},
		{`a b, "`, nil, api.ErrList},
		{`", a b`, nil, api.ErrList},
	} {
		if got, err := octet.Tokens(x.s); !slices.Equal(got, x.want) || err != x.err {
			t.Errorf("Tokens(%q): %q, %d", x.s, got, err)
		}
	}
}

// 1.6: all short texts, held against patterns.
func TestListsAgainstPattern(t *testing.T) {
	for s := range texts(listPieces, 6) {
		want, wantErr := listByPattern(s)
		if got, err := octet.List(s); !slices.Equal(got, want) || err != wantErr {
			t.Fatalf("List(%q): %q, %d; want %q, %d", s, got, err, want, wantErr)
		}
		if wantErr == api.OK && slices.ContainsFunc(want, func(e string) bool { return !octet.IsToken(e) }) {
			want, wantErr = nil, api.ErrToken
		}
		if got, err := octet.Tokens(s); !slices.Equal(got, want) || err != wantErr {
			t.Fatalf("Tokens(%q): %q, %d; want %q, %d", s, got, err, want, wantErr)
		}
	}
}

func listByPattern(s string) ([]string, api.Errno) {
	if !wholeList.MatchString(s) {
		return nil, api.ErrList
	}
	var l []string
	for _, e := range elementOfList.FindAllString(s, -1) {
		if e = octet.Trim(e); e != "" {
			l = append(l, e)
		}
	}
	return l, api.OK
}

// 1.7
func TestJoin(t *testing.T) {
	for _, x := range []struct {
		l    []string
		want string
	}{
		{nil, ""}, {[]string{}, ""}, {[]string{""}, ""}, {[]string{"a"}, "a"}, {[]string{"a", "b"}, "a, b"},
		{[]string{"a", "", " b", "c,d"}, "a, ,  b, c,d"},
	} {
		if got := octet.Join(x.l); got != x.want {
			t.Errorf("Join(%q): %q", x.l, got)
		}
	}
}

// 1.10: List(Join(l)) is l, if l has only texts that are elements for themselves.
func TestListOfJoin(t *testing.T) {
	var elements []string
	for s := range texts(listPieces, 3) {
		if l, err := octet.List(s); err == api.OK && slices.Equal(l, []string{s}) {
			elements = append(elements, s)
		}
	}
	if len(elements) < 10 {
		t.Fatal("too few elements:", elements)
	}
	for _, a := range elements {
		for _, b := range elements {
			l := []string{a, b, a}
			if got, err := octet.List(octet.Join(l)); !slices.Equal(got, l) || err != api.OK {
				t.Fatalf("List of Join(%q): %q, %d", l, got, err)
			}
		}
	}
	if got, err := octet.List(octet.Join(elements)); !slices.Equal(got, elements) || err != api.OK {
		t.Errorf("List of Join(%q): %q, %d", elements, got, err)
	}
}
