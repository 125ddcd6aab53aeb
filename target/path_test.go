package target_test

import (
	"slices"
	"strings"
	"testing"

	"turnpike/api"
	"turnpike/target"
)

func checkNormal(t *testing.T, path, want string) {
	t.Helper()
	if s, err := target.Normal(path); s != want || err != api.OK {
		t.Errorf("Normal(%q): %q, %d; want %q", path, s, err, want)
	}
}

// noPaths are texts that are no path, and none that is one behind a /.
var noPaths = []string{"?", "/?", "/a#", "/ ", "/%", "/%4", "/%4g", "/%g4", "/a/\x00", "/\x7f", "/\xc3\xa4", "/[", "/]", "/\"", "/<", "/\\", "/^", "/`", "/{", "/|", "/\n", "/%%41"}

// 5.5, the example 5.
func TestNormal(t *testing.T) {
	for path, want := range map[string]string{
		"/a/./b/../%7ec/%2f": "/a/~c/%2F", "/..": "/", "/a/..": "/", "/a//../b": "/a/b", "/a/.": "/a/",
		"/": "/", "//": "//", "/.": "/", "/./": "/", "/../": "/", "/../..": "/", "/../../a": "/a", "/a/../..": "/", "/a/b/..": "/a/", "/a/b/../": "/a/",
		"/a//.": "/a//", "//..": "/", "//../": "/", "///..": "//", "/...": "/...", "/.a": "/.a", "/a.": "/a.", "/..a/b..": "/..a/b..",
		"/%2e": "/", "/%2E%2e": "/", "/a/%2e./b": "/b", "/a/.%2E": "/", "/%252e": "/%252e", "/a%2F..": "/a%2F..", "/%2f%2f/..": "/",
		"/%41%5a%61%7a%30%39%2d%2E%5f%7e": "/AZaz09-._~", "/%40%5b%60%7b%2f%3a%21": "/%40%5B%60%7B%2F%3A%21", "/%00%ff%aB": "/%00%FF%AB", "/!$&'()*+,;=:@": "/!$&'()*+,;=:@",
	} {
		checkNormal(t, path, want)
	}
	for _, path := range append([]string{"", "a", "a/b", ".", "*", "%2F", "http://a/"}, noPaths...) {
		if s, err := target.Normal(path); s != "" || err != api.ErrPath {
			t.Errorf("Normal(%q): %q, %d; want ErrPath", path, s, err)
		}
	}
}

// 5.5 and 5.8: all paths of some pieces; a normal form stays, and has no dots.
func TestNormalModel(t *testing.T) {
	for s := range texts([]string{"/", ".", "..", "/.", "/..", "a", "%2e", "%2f", "%7E", "%", " "}, 5) {
		path := "/" + s
		got, err := target.Normal(path)
		if !pathWhole.MatchString(path) {
			if got != "" || err != api.ErrPath {
				t.Fatalf("Normal(%q): %q, %d; want ErrPath", path, got, err)
			}
			continue
		}
		if want := modelNormal(path); got != want || err != api.OK {
			t.Fatalf("Normal(%q): %q, %d; want %q", path, got, err, want)
		}
		checkNormal(t, got, got)
		if l := strings.Split(got, "/"); !pathWhole.MatchString(got) || slices.Contains(l, ".") || slices.Contains(l, "..") {
			t.Fatalf("Normal(%q): %q has dots", path, got)
		}
	}
}

// 5.5: each percent triple, with digits in both cases.
func TestNormalTriples(t *testing.T) {
	const small, big = "0123456789abcdef", "0123456789ABCDEF"
	for c := range 256 {
		want := "%" + big[c>>4:c>>4+1] + big[c&15:c&15+1]
		if b := string([]byte{byte(c)}); strings.Contains(unreserved, b) {
			want = b
		}
		for _, d := range []string{small, big} {
			checkNormal(t, "/a%"+d[c>>4:c>>4+1]+d[c&15:c&15+1], "/a"+want)
		}
	}
}

// 5.5, the example 5.
func TestSegments(t *testing.T) {
	for path, want := range map[string][]string{
		"/a%2Fb/": {"a/b", ""}, "/": {""}, "/a/": {"a", ""}, "//": {"", ""}, "/a": {"a"}, "/./..": {".", ".."},
		"/%2e%2E/%25/%00%ff": {"..", "%", "\x00\xff"}, "/a+b/%20": {"a+b", " "}, "/a:@//b": {"a:@", "", "b"},
	} {
		if l, err := target.Segments(path); !slices.Equal(l, want) || err != api.OK {
			t.Errorf("Segments(%q): %q, %d; want %q", path, l, err, want)
		}
	}
	for _, path := range append([]string{"", "a", "a/b", "*"}, noPaths...) {
		if l, err := target.Segments(path); len(l) != 0 || err != api.ErrPath {
			t.Errorf("Segments(%q): %q, %d; want ErrPath", path, l, err)
		}
	}
	for s := range texts([]string{"/", "a", ".", "%2f", "%4a", "%"}, 6) {
		want := strings.Split(s, "/")
		for i := range want {
			want[i] = modelDecode(want[i])
		}
		good := pathWhole.MatchString("/" + s)
		if l, err := target.Segments("/" + s); good && (!slices.Equal(l, want) || err != api.OK) || !good && (len(l) != 0 || err != api.ErrPath) {
			t.Errorf("Segments(%q): %q, %d; want %q", "/"+s, l, err, want)
		}
	}
}

// 5.5, the example 5; and 5.8: segments come out of their path again.
func TestPath(t *testing.T) {
	for want, l := range map[string][]string{
		"/": {}, "/a%2Fb/": {"a/b", ""}, "//": {"", ""}, "/a/b": {"a", "b"}, "/./../~": {".", "..", "~"}, "/%25/%C3%A4%3A%40%2B%20": {"%", "\xc3\xa4:@+ "},
	} {
		if s := target.Path(l); s != want {
			t.Errorf("Path(%q): %q; want %q", l, s, want)
		}
	}
	if target.Path(nil) != "/" || target.Path([]string{""}) != "/" {
		t.Error("Path of nothing, or of an empty segment")
	}
	some := []string{"", "a", "/", "%", "..", "\x00\xff", "%2F", "a b?c"}
	for i := range len(some) * len(some) * len(some) {
		l := []string{some[i%8], some[i/8%8], some[i/64]}
		for n := 1; n <= 3; n++ {
			if back, err := target.Segments(target.Path(l[:n])); !slices.Equal(back, l[:n]) || err != api.OK {
				t.Fatalf("Segments of Path(%q): %q, %d", l[:n], back, err)
			}
		}
	}
}

// 5.6, the example 6.
func TestResolve(t *testing.T) {
	for _, x := range [][3]string{
		{"/a/b", "c", "/a/c"}, {"/a/b", "../c", "/c"}, {"/a/b", "/x/./y", "/x/y"}, {"/a/b", "", "/a/b"}, {"/a/", ".", "/a/"},
		{"/", "", "/"}, {"/", "a", "/a"}, {"/a/./b/..", "", "/a/"}, {"/a/..", "c", "/a/c"}, {"/a/../", "c", "/c"}, {"/a/%2e%2e", "", "/"}, {"/a/b", "..", "/"}, {"/a/b/c", "..", "/a/"},
		{"/a/b", "../../../c/", "/c/"}, {"/a/b", "%2e%2E/%7e", "/~"}, {"/a/b", "x:y", "/a/x:y"}, {"/a/b", "http://c", "/a/http://c"}, {"/a/b", "//c", "//c"}, {"/a/b", "/", "/"}, {"/a/b", "c//", "/a/c//"},
		{"/a%2Fb", "c", "/c"}, {"/a//", "../c", "/a/c"}, {"/%2f/b", "c%2f", "/%2F/c%2F"},
	} {
		if s, err := target.Resolve(x[0], x[1]); s != x[2] || err != api.OK {
			t.Errorf("Resolve(%q, %q): %q, %d; want %q", x[0], x[1], s, err, x[2])
		}
	}
	for _, x := range append([]string{"", "a", "*"}, noPaths...) {
		for _, ref := range []string{"", "/", "a", "?"} {
			if s, err := target.Resolve(x, ref); s != "" || err != api.ErrPath {
				t.Errorf("Resolve(%q, %q): %q, %d; want ErrPath", x, ref, s, err)
			}
		}
	}
	for _, x := range noPaths {
		for _, ref := range []string{x, x[1:] + "?", "a" + x} {
			if s, err := target.Resolve("/a/b", ref); s != "" || err != api.ErrPath {
				t.Errorf("Resolve(%q): %q, %d; want ErrPath", ref, s, err)
			}
		}
	}
}

func TestResolveModel(t *testing.T) {
	for s := range texts([]string{"/", ".", "a", "%2e", ":", "%4"}, 5) {
		for _, path := range []string{"/", "/b", "/b/c", "/b//", "/b/./..", "x", "/%"} {
			want := ""
			switch {
			case !pathWhole.MatchString(path) || !refWhole.MatchString(s):
			case s == "":
				want = modelNormal(path)
			case s[0] == '/':
				want = modelNormal(s)
			default:
				want = modelNormal(path[:strings.LastIndex(path, "/")+1] + s)
			}
			if got, err := target.Resolve(path, s); got != want || (err == api.OK) != (want != "") || err != api.OK && err != api.ErrPath {
				t.Fatalf("Resolve(%q, %q): %q, %d; want %q", path, s, got, err, want)
			}
		}
	}
}

// R1 and R4: a long path ends soon, and what is handed in and out is nobody else's.
func TestPathsAlone(t *testing.T) {
	const count = 300000
	checkNormal(t, strings.Repeat("/a", count)+strings.Repeat("/..", count), "/")
	checkNormal(t, "/"+strings.Repeat("%41", count), "/"+strings.Repeat("A", count))
	if l, err := target.Segments(strings.Repeat("/", count)); len(l) != count || err != api.OK {
		t.Error(len(l), err)
	}
	store := []string{"a", "b", "kept"}
	if target.Path(store[:2]) != "/a/b" || !slices.Equal(store, []string{"a", "b", "kept"}) {
		t.Errorf("Path changed its argument: %q", store)
	}
	one, _ := target.Segments("/a/b/c")
	two, _ := target.Segments("/a/b/c")
	for i := range one[:cap(one)] {
		one[:cap(one)][i] = "x"
	}
	if !slices.Equal(two, []string{"a", "b", "c"}) {
		t.Errorf("two answers share memory: %q", two)
	}
}
