package radix_test

import (
	"slices"
	"strings"
	"testing"

	"turnpike/api"
	"turnpike/radix"
)

func checkCheck(t *testing.T, s string, at int, err api.Errno) {
	t.Helper()
	if n, e := radix.Check(s); n != at || e != err {
		t.Errorf("Check(%.80q of %d) = %d, %d; want %d, %d", s, len(s), n, int(e), at, int(err))
	}
}

func checkCompare(t *testing.T, a, b string, order int, err api.Errno) {
	t.Helper()
	if n, e := radix.Compare(a, b); n != order || e != err {
		t.Errorf("Compare(%.80q, %.80q) = %d, %d; want %d, %d", a, b, n, int(e), order, int(err))
	}
}

func checkFits(t *testing.T, pattern, path string, l []api.Param, ok bool) {
	t.Helper()
	if got, fits := radix.Fits(pattern, path); fits != ok || !slices.Equal(got, l) {
		t.Errorf("Fits(%.80q, %.80q) = %v, %t; want %v, %t", pattern, path, got, fits, l, ok)
	}
}

func param(name, value string) api.Param { return api.Param{Name: name, Value: value, Has: true} }

// Example 1.
func TestExampleCheck(t *testing.T) {
	checkCheck(t, "/a/:b/*c", 0, api.OK)
	checkCheck(t, "", 0, api.ErrPattern)
	checkCheck(t, "a", 0, api.ErrPattern)
	checkCheck(t, "/:", 2, api.ErrPattern)
	checkCheck(t, "/:1", 2, api.ErrPattern)
	checkCheck(t, "/:a/:a", 6, api.ErrPattern)
	checkCheck(t, "/*a/b", 3, api.ErrPattern)
	checkCheck(t, "/a b", 2, api.ErrPattern)
	checkCheck(t, "/%4", 3, api.ErrPattern)
	checkCheck(t, "/:a-b", 3, api.ErrPattern)
}

// Example 2.
func TestExampleCompare(t *testing.T) {
	checkCompare(t, "/a", "/:x", -1, api.OK)
	checkCompare(t, "/:x", "/:y", 0, api.OK)
	checkCompare(t, "/a/*r", "/a/:x", 1, api.OK)
	checkCompare(t, "/a", "/a/b", -1, api.OK)
	checkCompare(t, "/b", "/a", 1, api.OK)
}

// Example 3.
func TestExampleFits(t *testing.T) {
	checkFits(t, "/a/*r", "/a/b/c", []api.Param{param("r", "b/c")}, true)
	checkFits(t, "/a/*r", "/a", nil, false)
	checkFits(t, "/:x", "/", nil, false)
	checkFits(t, "/", "/", nil, true)
}

// 13.1, ordinary patterns and the edges of its words.
func TestCheck(t *testing.T) {
	for _, s := range []string{"/", "//", "/a", "/a/", "/a//b", "/:a", "/*a", "/:a/:b/:c", "/:a/:A", "/a:b*c", "/a/b:/c*", "/%3a/%2A", "/:a/b/:c/*d", "/:aZ9_", "/*R_1", "/-._~!$&'()+,;=@*:", "/.", "/..", "/:a/a", "/a/:a", "/:a/:ab/:b"} {
		checkCheck(t, s, 0, api.OK)
	}
	for s, at := range map[string]int{
		"*": 0, ":a": 0, "%2f": 0, "?": 0, " /": 0,
		"/?": 1, "/a?b": 2, "/a?b c": 2, "/?%": 1, "/#": 1, "/a\x00": 2, "/\x80": 1, "/a/é": 3, "/a\\": 2, "/[": 1,
		"/%": 2, "/%g": 2, "/%4g": 3, "/%4/": 3, "/%/": 2, "/%4?": 3, "/%?": 2, "/a%4 ": 4, "/%41%": 5, "/%41%4": 6, "/%%": 2, "/%4%": 3,
		"/*": 2, "/*/": 2, "/:/": 2, "/:_": 2, "/::": 2, "/:*": 2, "/**": 2, "/:%41": 2, "/:a%41": 3, "/:a:": 3, "/:a*": 3, "/*a?": 3, "/:a.b": 3,
		"/*a/": 3, "/*a//": 3, "/*a/*b": 3, "/x/*a/:b": 5,
		"/:a/:a/": 6, "/:a/*a": 6, "/:a/*a/": 6, "/:a/:a/:b": 6, "/:a/:a-": 6, "/:b/x/:a/:b/y": 11, "/:a/x/:a": 8, "/:a/:ab/:a": 10, "/:a/:a/ ": 6,
	} {
		checkCheck(t, s, at, api.ErrPattern)
	}
}

// 13.1, held against the model: all texts of a few pieces.
func TestCheckModel(t *testing.T) {
	compare := func(s string) {
		at, err := modelCheck(s)
		checkCheck(t, s, at, err)
	}
	for s := range texts([]string{"/", ":", "*", "a", "1", "_", "-", "%", "?", " "}, 4) {
		compare(s)
		compare("/:b" + s)
		compare("/c" + s)
	}
	for s := range texts([]string{"/", "/:a", "/:b", "/*a", "/*b", "a", "%4", "-"}, 5) {
		compare(s)
	}
	for _, c := range everyByte() {
		for _, ahead := range []string{"", "/", "/a", "/:", "/:a", "/*", "/*a", "/%", "/%4", "/%41", "/:a/", "/:a/:", "/:a/:a"} {
			for _, behind := range []string{"", "a", "4/", "/*a", " "} {
				compare(ahead + c + behind)
			}
		}
	}
}

// 13.1, R6: the limit, and one past it; what lies behind it is not looked at, what lies ahead of it is told.
func TestCheckLimit(t *testing.T) {
	row := strings.Repeat("/a", 512)
	for s, at := range map[string]int{
		row[:1023] + " ":               1023,
		row[:1022] + " a":              1022,
		row[:1022] + "/:":              1024,
		row[:1022] + "%4":              1024,
		row[:1023] + "%":               1024,
		row[:1021] + ":a/":             0,
		row + "a":                      1024,
		row + "/":                      1024,
		row + " ":                      1024,
		row + "/ ":                     1024,
		row + row:                      1024,
		row + row + " ":                1024,
		row[:1022] + "%41":             1024,
		row[:1022] + "%4 ":             1024,
		row[:1022] + "% 1":             1023,
		row[:1020] + "/:aaaa":          1024,
		row[:1020] + "/:aa/":           1024,
		row[:1020] + "/:aa ":           1024,
		row[:1020] + "/:a /":           1023,
		row[:1020] + "/*aa/b":          1024,
		row[:1020] + "/*a/bc":          1023,
		"/:bc" + row[:1016] + "/:bc":   1024,
		"/:bc" + row[:1016] + "/:bc/":  1024,
		"/:bc" + row[:1016] + "/:bc ":  1024,
		"/:b" + row[:1016] + "/:b/:cd": 1022,
		"/ " + row:                     1,
	} {
		want := api.ErrPattern
		if at == 0 {
			want = api.OK
		}
		checkCheck(t, s, at, want)
		if n, err := modelCheck(s); n != at || err != want {
			t.Errorf("the model of %.30q of %d says %d, %d", s, len(s), n, int(err))
		}
	}
	for _, s := range []string{row, row[:1023], row[:1022] + "/a", row[:1020] + "/:aa", row[:1020] + "/*aa", row[:1021] + "%41", strings.Repeat("/", 1024), "/:" + strings.Repeat("b", 1022)} {
		checkCheck(t, s, 0, api.OK)
		if len(s) == 1024 {
			checkCheck(t, s+"a", 1024, api.ErrPattern)
		}
	}
}

// manyPatterns is patterns of some pieces, those with names that stand twice left out.
func manyPatterns(pieces []string, most int) []string {
	var out []string
	for l := range lists(pieces, most) {
		if s := "/" + strings.Join(l, "/"); len(l) > 0 && modelPattern(s) {
			out = append(out, s)
		}
	}
	return out
}

// 13.2, the edges of its words.
func TestCompare(t *testing.T) {
	for _, x := range []struct {
		a, b string
		n    int
	}{
		{"/", "/", 0}, {"/", "/a", -1}, {"/", "//", -1}, {"/", "/:a", -1}, {"/", "/*a", -1}, {"/a", "/a/", -1},
		{"/:a", "/*a", -1}, {"/*a", "/*b", 0}, {"/:a/b", "/:b/b", 0}, {"/:a/b", "/:b/c", -1}, {"/:a/:b", "/:b/:a", 0},
		{"/:a", "/:a/b", -1}, {"/:z/a", "/:a", 1}, {"/a/z", "/a-", -1}, {"/a/:x", "/a!", -1}, {"/a/*x", "/a%41", -1},
		{"/a", "/ab", -1}, {"/B", "/a", -1}, {"/%41", "/%4a", -1}, {"/%4A", "/%4a", -1}, {"/zz", "/:a", -1}, {"/:a", "/*a", -1},
		{"/*a", "/:a/b/c", 1}, {"/*a", "/a/b/c", 1}, {"/a/:x/b", "/a/:y/*z", -1}, {"/:a/x", "/b/*r", 1}, {"/a//b", "/a/b", -1},
	} {
		checkCompare(t, x.a, x.b, x.n, api.OK)
		checkCompare(t, x.b, x.a, -x.n, api.OK)
	}
	long := strings.Repeat("/", 1024)
	checkCompare(t, long, long, 0, api.OK)
	checkCompare(t, long[:1023], long, -1, api.OK)
	for _, bad := range []string{"", "a", "/:", "/*a/b", "/:a/:a", "/%4", "/ ", long + "/"} {
		checkCompare(t, bad, "/a", 0, api.ErrPattern)
		checkCompare(t, "/a", bad, 0, api.ErrPattern)
		checkCompare(t, bad, bad, 0, api.ErrPattern)
	}
}

// 13.2, held against the model: all pairs of many patterns.
func TestCompareModel(t *testing.T) {
	l := manyPatterns([]string{"", "a", "a-", "a0", "%4f", ":x", ":y", "*x", "*z"}, 3)
	for _, a := range l {
		for _, b := range l {
			checkCompare(t, a, b, strings.Compare(orderKey(a), orderKey(b)), api.OK)
		}
	}
}

// 13.3, the edges of its words, and what is no pattern or no path.
func TestFits(t *testing.T) {
	for _, x := range []struct{ pattern, path string }{
		{"/a", "/a"}, {"//", "//"}, {"/a/", "/a/"}, {"/%4f", "/%4f"}, {"/a:b", "/a:b"},
	} {
		checkFits(t, x.pattern, x.path, nil, true)
	}
	checkFits(t, "/:x", "/%2F", []api.Param{param("x", "%2F")}, true)
	checkFits(t, "/:x", "/:x", []api.Param{param("x", ":x")}, true)
	checkFits(t, "/:x/:y", "/1/2", []api.Param{param("x", "1"), param("y", "2")}, true)
	checkFits(t, "/:y/b/:x", "/1/b/2", []api.Param{param("y", "1"), param("x", "2")}, true)
	checkFits(t, "/*r", "/", []api.Param{param("r", "")}, true)
	checkFits(t, "/*r", "//", []api.Param{param("r", "/")}, true)
	checkFits(t, "/*r", "/../.", []api.Param{param("r", "../.")}, true)
	checkFits(t, "/:x/*r", "/a/", []api.Param{param("x", "a"), param("r", "")}, true)
	for _, x := range []struct{ pattern, path string }{
		{"/a", "/"}, {"/a", "/a/"}, {"/a/", "/a"}, {"/a", "/A"}, {"/a", "/%61"}, {"/%4f", "/%4F"}, {"/%4f", "/O"}, {"/a", "/ab"}, {"/ab", "/a"}, {"/", "//"}, {"//", "/"},
		{"/:x", "//"}, {"/:x", "/a/"}, {"/:x/b", "/a/c"}, {"/:x/b", "//b"}, {"/a/:x", "/a/"}, {"/a/:x", "/a"}, {"/:x/*r", "/a"}, {"/:x/*r", "//a"},
		{"/*r", ""}, {"/*r", "a"}, {"/*r", "/a b"}, {"/*r", "/%"}, {"/*r", "/%4"}, {"/*r", "/?"}, {"/*r", "/a?b"}, {"/*r", "/#"}, {"/*r", "http://a/"}, {"/*r", "*"}, {"/*r", "/\x80"}, {"/*r", "a/b"},
		{"", "/"}, {"*r", "/"}, {"/:", "/a"}, {"/*a/b", "/a/b"}, {"/:a/:a", "/a/a"}, {"/a b", "/a b"}, {"/%", "/%"}, {strings.Repeat("/", 1025), strings.Repeat("/", 1025)},
	} {
		checkFits(t, x.pattern, x.path, nil, false)
	}
	long := strings.Repeat("/", 1024)
	checkFits(t, long, long, nil, true)
	checkFits(t, "/*r", long+long, []api.Param{param("r", (long + long)[1:])}, true)
}

// 13.3, held against the model: many patterns at many paths.
func TestFitsModel(t *testing.T) {
	patterns := manyPatterns([]string{"", "a", "a:", ":x", ":y", "*z"}, 3)
	for path := range texts([]string{"/", "a", "a:", "%61", "*z"}, 5) {
		for _, p := range patterns {
			l, ok := modelFits(p, path)
			checkFits(t, p, path, l, ok)
		}
	}
}
