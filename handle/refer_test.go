package handle_test

import (
	"strings"
	"testing"

	"turnpike/api"
	"turnpike/handle"
)

func checkRefer(t *testing.T, text string, l []api.Param, want string) {
	t.Helper()
	if s, err := handle.Refer(text, l); s != want || err != api.OK {
		t.Errorf("Refer(%s, %s): %s, %d, wanted %s", show(text), show(l), show(s), err, show(want))
	}
}

func checkNoReference(t *testing.T, text string) {
	t.Helper()
	if s, err := handle.Refer(text, params("a", "1", "1", "2", "", "3")); s != "" || err != api.ErrHandler {
		t.Errorf("Refer(%s): %s, %d", show(text), show(s), err)
	}
	h := api.Handler{Kind: api.HandleRedirect, Status: 301, Text: text}
	if err := handle.Check(h); err != api.ErrHandler {
		t.Errorf("Check(%s): %d", show(h), err)
	}
}

// 18.3: example 2, and pieces at all places.
func TestRefer(t *testing.T) {
	checkRefer(t, "/new/{id}?x", params("id", "7"), "/new/7?x")
	checkRefer(t, "/", nil, "/")
	checkRefer(t, "{a}", params("a", "1"), "1")
	checkRefer(t, "{a}{b}{a}", params("a", "1", "b", "2"), "121")
	checkRefer(t, "x{a}y{b}z", params("b", "2", "a", "1"), "x1y2z")
	checkRefer(t, "http://h/{r}#f", params("r", "p/q"), "http://h/p/q#f")
	checkRefer(t, "{A_1b}", params("A_1b", "v", "A_1", "w"), "v")
}

// 18.3: a parameter that is not there says nothing; of several with one name the first one counts; names go by case.
func TestReferValues(t *testing.T) {
	checkRefer(t, "{a}", nil, "")
	checkRefer(t, "/{a}/{b}", params("b", "2"), "//2")
	checkRefer(t, "/{a}", params("b", "2", "a", "1", "a", "3"), "/1")
	checkRefer(t, "/{a}", params("a", "", "a", "3"), "/")
	checkRefer(t, "/{a}", params("A", "1"), "/")
	checkRefer(t, "/{a}", params("aa", "1", "{a}", "2"), "/")
	checkRefer(t, "/{a}", []api.Param{{Name: "a", Value: "1"}}, "/1")
}

// 18.3: a value is laid in as it is, raw; what it says is not looked at again.
func TestReferRaw(t *testing.T) {
	checkRefer(t, "/{a}", params("a", "%2f%zz"), "/%2f%zz")
	checkRefer(t, "/{a}", params("a", "{b}", "b", "1"), "/{b}")
	checkRefer(t, "{a}x", params("a", "}{"), "}{x")
	checkRefer(t, "{a}", params("a", " \r\n\x00\xff "), " \r\n\x00\xff ")
}

// 18.3: other bytes of fields stand for themselves, letters of many bytes and bytes that are no letter too.
func TestReferBytes(t *testing.T) {
	checkRefer(t, "é{a}é", params("a", "ü"), "éüé")
	checkRefer(t, "\xff{a}\xc3", params("a", "1"), "\xff1\xc3")
	checkRefer(t, "a\t b", nil, "a\t b")
	for _, c := range everyByte() {
		if c == "{" || c == "}" || c[0] < 32 && c != "\t" || c[0] == 127 {
			checkNoReference(t, "x"+c+"y")
			checkNoReference(t, c)
			continue
		}
		checkRefer(t, "x"+c+"y", nil, "x"+c+"y")
		checkRefer(t, "{a}"+c+"{b}", params("a", "1", "b", "2"), "1"+c+"2")
	}
}

// 18.3: example 2, and other texts that are no reference.
func TestNoReference(t *testing.T) {
	for _, s := range []string{
		"{a", "a}", "{1}", "", "{}", "{", "}", "}{", "{{a}}", "{a}}", "{{a}", "{a{b}}", "{a}{", "{a b}", "{ a}", "{a }",
		"{_a}", "{a-b}", "{a.}", "{é}", "{aé}", "{a\xff}", "/{a}/{", "/{a}/}", " ", "\t", " /", "/ ", "\t/", "/\t", " {a}", "{a} ",
		"/\n", "/\r\n/", "\x00", "/\x7f", "{:a}", "{*a}", "{a}{b}{1}", strings.Repeat("{a}", 1000) + "}",
	} {
		checkNoReference(t, s)
	}
}

// 18.3: all short texts against the model.
func TestReferByModel(t *testing.T) {
	l := params("b", "x", "a", "{}", "b", "y", "ab", " ")
	for s := range texts([]string{"{", "}", "a", "b", "1", "_", " ", "\xff", "\x7f", "/"}, 5) {
		want, right := modelRefer(s, l)
		got, err := handle.Refer(s, l)
		if got != want || right != (err == api.OK) || !right && err != api.ErrHandler {
			t.Fatalf("Refer(%q): %q, %d, wanted %q, %v", s, got, err, want, right)
		}
	}
}

// 18.2: example 2, with each status; what the reference says stands behind the media type.
func TestRedirect(t *testing.T) {
	reasons := map[int]string{301: "Moved Permanently", 302: "Found", 303: "See Other", 307: "Temporary Redirect", 308: "Permanent Redirect"}
	for status, reason := range reasons {
		h := api.Handler{Kind: api.HandleRedirect, Status: status, Text: "/new/{id}?x"}
		checkAnswer(t, h, api.Asked{Params: params("id", "7")}, nil, plain(status, reason, "Location", "/new/7?x"))
		checkAnswer(t, h, api.Asked{}, nil, plain(status, reason, "Location", "/new/?x"))
	}
	h := api.Handler{Kind: api.HandleRedirect, Status: 303, Text: "{a}"}
	checkAnswer(t, h, api.Asked{}, nil, plain(303, "See Other", "Location", ""))
}

// R6: neither a reference nor what it says has a limit of its own.
func TestLongReference(t *testing.T) {
	checkRefer(t, strings.Repeat("/{a}", 20000), params("a", "xy"), strings.Repeat("/xy", 20000))
	checkRefer(t, "{"+strings.Repeat("a", 50000)+"}", params(strings.Repeat("a", 50000), "1"), "1")
}
