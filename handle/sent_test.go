package handle_test

import (
	"fmt"
	"strings"
	"testing"

	"turnpike/api"
	"turnpike/handle"
	"turnpike/sheet"
)

const pairsMedia = "application/x-www-form-urlencoded"

// checkForm sends a body of some media types.
func checkForm(t *testing.T, n int, body string, want api.Response, types ...string) {
	t.Helper()
	var l []api.Field
	for i, media := range types {
		l = append(l, api.Field{Name: []string{"Content-Type", "content-TYPE"}[i%2], Value: media})
	}
	a := api.Asked{Request: api.Request{Method: "POST", Fields: l, Body: body}}
	checkAnswer(t, api.Handler{Kind: api.HandleForm, N: n}, a, nil, want)
}

// 18.2: a line a pair; N has no part in pairs.
func TestPairs(t *testing.T) {
	checkForm(t, 1, "a=b+c&d", text("pair a=b%20c\npair d\n"), pairsMedia)
	checkForm(t, 1, "", text(""), pairsMedia)
	checkForm(t, 1, "&&", text(""), pairsMedia)
	checkForm(t, 1, "=&a=&=b&c%3D", text("pair =\npair a=\npair =b\npair c%3D\n"), pairsMedia)
	checkForm(t, 1, "a b=\r\n\x00é", text("pair a%20b=%0D%0A%00%C3%A9\n"), pairsMedia)
	checkForm(t, 1, strings.Repeat("a&", 2000), text(strings.Repeat("pair a\n", 2000)), pairsMedia)
}

// 18.2: a body of pairs that is none.
func TestNoPairs(t *testing.T) {
	for _, body := range []string{"%", "a=%4", "a=1&b=%zz", "%%41"} {
		checkForm(t, 1000, body, plain(400, "Bad Request"), pairsMedia)
	}
}

// 18.2: a media type is taken without regard to case, to blanks around it, and to parameters that say nothing here.
func TestFormTypes(t *testing.T) {
	for _, media := range []string{pairsMedia, " APPLICATION/X-www-Form-UrlEncoded\t", pairsMedia + "; charset=utf-8", pairsMedia + ";;boundary=\"B\";", pairsMedia + ";"} {
		checkForm(t, 1, "a", text("pair a\n"), media)
	}
	unsupported := plain(415, "Unsupported Media Type")
	checkForm(t, 1, "a", unsupported)
	checkForm(t, 1, "a", unsupported, pairsMedia, pairsMedia)
	checkForm(t, 1, "a", unsupported, pairsMedia, "")
	for _, media := range []string{
		"", "text", "text/plain", "application/json", pairsMedia + "x", pairsMedia + " x", pairsMedia + "; x", pairsMedia + "; x=", "application/", "/",
		"multipart/x-www-form-urlencoded", "application/form-data; boundary=B", "multipart/form-data", "multipart/form-data; bound=B", "multipart/mixed; boundary=B",
		"multipart/form-data; boundary", "multipart/form-data; boundary=", "multipart/form-data boundary=B", "*/*", pairsMedia + ", " + pairsMedia,
	} {
		checkForm(t, 1, "a", unsupported, media)
		checkForm(t, 1, "%", unsupported, media)
	}
}

const aPart = "--B\r\nContent-Disposition: form-data; name=a\r\n\r\n1\r\n"

// 18.2: a line a part: its name, its file, its media type, its length.
func TestParts(t *testing.T) {
	media := "multipart/form-data; boundary=B"
	checkForm(t, 1, aPart+"--B--", text("part a - - 1\n"), media)
	body, err := sheet.Print("B", []api.Part{
		{Name: "a b", File: "x/y.txt", HasFile: true, Media: "text/plain; charset=utf-8", Body: "12345"},
		{Name: "", File: "", HasFile: true, Body: ""},
		{Name: "é", Media: "-", Body: strings.Repeat("\r\n", 50)},
		{Name: "-", File: "-", HasFile: true},
	})
	if err != api.OK {
		t.Fatal(err)
	}
	want := "part a%20b x%2Fy.txt text%2Fplain%3B%20charset%3Dutf-8 5\n" + "part   - 0\n" + "part %C3%A9 - - 100\n" + "part - - - 0\n"
	checkForm(t, 4, body, text(want), media)
	checkForm(t, 1000, "before\r\n"+body+"behind", text(want), media)
}

// 18.2: the first parameter boundary counts, whatever its case, quoted or not.
func TestBoundaries(t *testing.T) {
	for _, media := range []string{
		"Multipart/Form-Data;BOUNDARY=B", "multipart/form-data; boundary=\"B\"", "multipart/form-data; x=\"boundary=C\"; boundary=B; boundary=C",
		" multipart/form-data ; charset=\"\" ;; Boundary=B ;",
	} {
		checkForm(t, 1, aPart+"--B--", text("part a - - 1\n"), media)
	}
	for _, media := range []string{
		"multipart/form-data; boundary=b", "multipart/form-data; boundary=C; boundary=B", "multipart/form-data; boundary=\"\"", "multipart/form-data; boundary=\"B B\"",
		"multipart/form-data; boundary=*", "multipart/form-data; boundary=" + strings.Repeat("B", 71),
	} {
		checkForm(t, 1, aPart+"--B--", plain(400, "Bad Request"), media)
	}
	spaced := "--a/b:c\r\nContent-Disposition: form-data; name=\"x y\"\r\n\r\n\r\n--a/b:c--\r\n"
	checkForm(t, 1, spaced, text("part x%20y - - 0\n"), "multipart/form-data; boundary=\"a/b:c\"")
}

// 18.2: more parts than N are too many; what is wrong ahead of that is told first.
func TestTooManyParts(t *testing.T) {
	media := "multipart/form-data; boundary=B"
	for _, n := range []int{1, 2, 3, 999, 1000} {
		checkForm(t, n, strings.Repeat(aPart, n)+"--B--", text(strings.Repeat("part a - - 1\n", n)), media)
		checkForm(t, n, strings.Repeat(aPart, n+1)+"--B--", plain(413, "Content Too Large"), media)
		checkForm(t, n, strings.Repeat(aPart, n+1), plain(413, "Content Too Large"), media)
		checkForm(t, n, strings.Repeat(aPart, n), plain(400, "Bad Request"), media)
		checkForm(t, n, "--B\r\n\r\n\r\n"+strings.Repeat(aPart, n)+"--B--", plain(400, "Bad Request"), media)
	}
}

// 18.2: a body in parts that is none.
func TestNoParts(t *testing.T) {
	for _, body := range []string{"", "a", "--B--", "--B", "--B\r\n\r\n1\r\n--B--", aPart, aPart + "--B", aPart + "--C--", "--B\r\nX\r\n\r\n1\r\n--B--", "--B\r\nContent-Disposition: file; name=a\r\n\r\n1\r\n--B--"} {
		checkForm(t, 9, body, plain(400, "Bad Request"), "multipart/form-data; boundary=B")
	}
}

// 18.2: bodies and media types put together of pieces against the model.
func TestFormByModel(t *testing.T) {
	types := []string{"", pairsMedia, "Multipart/form-data; boundary=B", "multipart/form-data;boundary=\"C\"", "multipart/form-data", "text/plain", "multipart/form-data; boundary=B x"}
	pieces := []string{aPart, "--B--", "--C--\r\n", "a=%4", "1&", "\r\n", "--B\r\nContent-Disposition: form-data; name=x; filename=y\r\nContent-Type: a/b\r\n\r\n"}
	i := 0
	for body := range texts(pieces, 4) {
		for _, media := range types {
			i++
			h := api.Handler{Kind: api.HandleForm, N: 1 + i%3}
			a := api.Asked{Request: api.Request{Fields: fields("content-type", media, "X", "y"), Body: body}}
			if r := handle.Answer(h, a, nil); !same(r, modelAnswer(h, a, nil)) {
				t.Fatalf("of %q, %q: %s", media, body, show(r))
			}
		}
	}
}

// R6: a part's length is told in digits, however long it is.
func TestLongPart(t *testing.T) {
	for _, n := range []int{9, 10, 999, 1000, 1 << 20} {
		body := "--B\r\nContent-Disposition: form-data; name=a\r\n\r\n" + strings.Repeat("x", n) + "\r\n--B--"
		checkForm(t, 1, body, text(fmt.Sprintf("part a - - %d\n", n)), "multipart/form-data; boundary=B")
	}
}
