package sheet_test

import (
	"slices"
	"strconv"
	"strings"
	"testing"

	"turnpike/api"
	"turnpike/sheet"
)

func checkDisposition(t *testing.T, s, want string, wantList []api.Param, wantErr api.Errno) {
	t.Helper()
	if word, l, err := sheet.Disposition(s); word != want || !slices.Equal(l, wantList) || err != wantErr {
		t.Errorf("Disposition(%.60q): %q, %s, %d; want %q, %s, %d", s, word, show(l), err, want, show(wantList), wantErr)
	}
}

// 15.3, the example 2.
func TestDispositionExamples(t *testing.T) {
	checkDisposition(t, "form-data; Name=\"x\"", "form-data", []api.Param{pair("name", "x")}, api.OK)
	checkDisposition(t, "a;b", "", nil, api.ErrPart)
}

// 15.3: small letters of the token and of the names; values as they are said.
func TestDisposition(t *testing.T) {
	for _, x := range []struct {
		s, word string
		l       []api.Param
	}{
		{"a", "a", nil}, {" \ta\t ", "a", nil}, {"Form-DATA", "form-data", nil}, {"a;", "a", nil}, {"a ; ;; ", "a", nil}, {"!#$%&'*+-.^_`|~9", "!#$%&'*+-.^_`|~9", nil},
		{"A;B=C", "a", []api.Param{pair("b", "C")}}, {"a \t;\t b=c ;d=e", "a", []api.Param{pair("b", "c"), pair("d", "e")}}, {"a;;b=c;;", "a", []api.Param{pair("b", "c")}},
		{`a;NAME="X;Y=\"\\ ";FileName*=u`, "a", []api.Param{pair("name", `X;Y="\ `), pair("filename*", "u")}}, {`a;b=""`, "a", []api.Param{pair("b", "")}},
		{"a;b=\"\xff\t\"", "a", []api.Param{pair("b", "\xff\t")}}, {`a;b="; c=d";c=";"`, "a", []api.Param{pair("b", "; c=d"), pair("c", ";")}},
		{"a;z=1;y=1;x=Z", "a", []api.Param{pair("z", "1"), pair("y", "1"), pair("x", "Z")}}, {"a;a=a", "a", []api.Param{pair("a", "a")}},
	} {
		checkDisposition(t, x.s, x.word, x.l, api.OK)
	}
}

// 15.3: what is none.
func TestDispositionErrors(t *testing.T) {
	for _, s := range []string{
		"", " ", ";", ";a=b", " ; a=b", "\"a\"", "\"a\";b=c", "a b", "a b=c", "a/b", "a/b;c=d", "a,b", "a=b", "a:b;c=d", "\na", "a\n", "a\r\n", "\xff;b=c", "a\x00;b=c", "a b;c=d", "a \n;b=c",
		"a;b", "a;b;c=d", "a;c=d;b", "a;b=c;d=", "a;b=", "a;b= c", "a;b =c", "a;=c", "a;b=c d", "a;b=c=d", "a;b=\"c", "a;b=\"c\"d", "a;b=\"c\\\"", "a;b=\"\n\"", "a;b=\"\x7f\"", "a;b=c,", "a;b=c\x00", "a;b=\xff", "a;b/c=d", "a;\"b\"=c", "a;b=c\n",
		"a;b=c;b=d", "a;b=c;B=c", "a;b=c;d=e;b=c", "a;NAME=x;name=x", "a;n-m=1;x=1;N-M=2", "a;b=c;;b=c", "a;b=\"\";b=\"\"",
	} {
		checkDisposition(t, s, "", nil, api.ErrPart)
	}
}

// 15.3, held against a pattern: all short rows of what stands in dispositions, and each byte at each place of one.
func TestDispositionAll(t *testing.T) {
	taken, refused := 0, 0
	compare := func(s string) {
		word, l, err := modelDisposition(s)
		checkDisposition(t, s, word, l, err)
		if err == api.OK {
			taken++
		} else {
			refused++
		}
	}
	for s := range texts([]string{"a", "B", ";", "=", " ", "\"", "\\", "b"}, 6) {
		compare(s)
		compare("a;" + s)
	}
	for s := range texts([]string{";", " ", "a=b", "A=\"x\"", "c=\";\"", "b", "\t"}, 5) {
		compare("x" + s)
	}
	for s := range edits("a; b=c;d=\"e\\f\"", allBytes()) {
		compare(s)
	}
	if taken < 1000 || refused < 1000 {
		t.Error("too few:", taken, refused)
	}
}

// R1: a great many parameters.
func TestDispositionLong(t *testing.T) {
	const n = 100000
	var b strings.Builder
	b.WriteString("a")
	for i := range n {
		b.WriteString("; N" + strconv.Itoa(i) + "=V")
	}
	word, l, err := sheet.Disposition(b.String())
	if word != "a" || len(l) != n || err != api.OK {
		t.Fatal("Disposition:", word, len(l), err)
	}
	for i, p := range l {
		if p != pair("n"+strconv.Itoa(i), "V") {
			t.Fatal("Disposition:", i, p)
		}
	}
	checkDisposition(t, b.String()+";n0=x", "", nil, api.ErrPart)
	checkDisposition(t, b.String()+";x", "", nil, api.ErrPart)
}
