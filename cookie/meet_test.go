package cookie_test

import (
	"testing"

	"turnpike/cookie"
)

func checkBelongs(t *testing.T, host, domain string, want bool) {
	t.Helper()
	if cookie.Belongs(host, domain) != want {
		t.Fatalf("Belongs(%q, %q): not %v", host, domain, want)
	}
}

func checkUnder(t *testing.T, path, of string, want bool) {
	t.Helper()
	if cookie.Under(path, of) != want {
		t.Fatalf("Under(%q, %q): not %v", path, of, want)
	}
}

func checkDefaultPath(t *testing.T, path, want string) {
	t.Helper()
	if got := cookie.DefaultPath(path); got != want {
		t.Fatalf("DefaultPath(%q): %q; want %q", path, got, want)
	}
}

// 16.3: example 3, and the edges of numbers and points.
func TestBelongs(t *testing.T) {
	for _, x := range []struct {
		host, domain string
		want         bool
	}{
		{"x.a.b", "a.b", true},
		{"xa.b", "a.b", false},
		{"1.2.3.4", "3.4", false},
		{"1.2.3.4", "1.2.3.4", true},
		{"x.1.2.3.4", "3.4", true},
		{"1.2.3.4x", "4x", true},
		{"1.2.3.4x", "4", false},
		{"1.2.3", ".3", false},
		{"a.b", "x.a.b", false},
		{"a.b", "b", true},
		{"a.b", "a", false},
		{"a.b", "A.B", false},
		{"X.a.b", "a.b", true},
		{"y.x.a.b", "a.b", true},
		{".a.b", "a.b", true},
		{"x.a.b", ".a.b", false},
		{"x..a.b", ".a.b", true},
		{"a.b.", "a.b", false},
		{"x.a.b.", "a.b.", true},
		{"[::1]", "[::1]", true},
		{"[::ffff:1.2.3.4]", "4]", false},
		{"[a.b]", "b]", false},
		{"[a.b", "b", true},
		{"a.b]", "b]", true},
		{"", "", true},
		{"", "a", false},
		{"a", "", false},
		{"a.", "", true},
		{".", "", false},
		{"1.", "", false},
	} {
		checkBelongs(t, x.host, x.domain, x.want)
	}
}

// 16.3: example 3, and paths with slashes at their ends.
func TestUnder(t *testing.T) {
	for _, x := range []struct {
		path, cookie string
		want         bool
	}{
		{"/a/b", "/a", true},
		{"/ab", "/a", false},
		{"/a", "/a/", false},
		{"/a/", "/a/", true},
		{"/a/b", "/a/", true},
		{"/a", "/a", true},
		{"/a/", "/a", true},
		{"/a", "/", true},
		{"/", "/", true},
		{"/", "/a", false},
		{"/A/b", "/a", false},
		{"a", "/", false},
		{"/a", "", true},
		{"a", "", false},
		{"", "", true},
		{"", "/", false},
		{"x/y", "x", true},
		{"/b/a", "/a", false},
	} {
		checkUnder(t, x.path, x.cookie, x.want)
	}
}

// 16.3: example 3, and paths with slashes one behind the other.
func TestDefaultPath(t *testing.T) {
	for path, want := range map[string]string{
		"/a/b": "/a", "/a": "/", "x": "/", "": "/", "/": "/", "//": "/", "///": "//", "//a": "/", "/a/": "/a", "/a//": "/a/",
		"/a/b/c": "/a/b", "x/y": "/", "x/": "/", "x/y/z": "/", "/;/b": "/;", "/ \n/\xff": "/ \n", "/a/b?c/d": "/a/b?c",
	} {
		checkDefaultPath(t, path, want)
	}
}

// 16.3: all pairs of short texts.
func TestMeetsAgainstPattern(t *testing.T) {
	var hosts, paths []string
	for s := range texts([]string{"a", ".", "1", "[", "]"}, 4) {
		hosts = append(hosts, s)
	}
	for s := range texts([]string{"/", "a", "\n"}, 5) {
		paths = append(paths, s)
	}
	for _, host := range hosts {
		for _, domain := range hosts {
			checkBelongs(t, host, domain, modelBelongs(host, domain))
		}
	}
	for _, path := range paths {
		checkDefaultPath(t, path, modelDefaultPath(path))
		for _, of := range paths {
			checkUnder(t, path, of, modelUnder(path, of))
		}
	}
}

// 16.3: each byte in a host that is a number but for it, and around a slash.
func TestMeetBytes(t *testing.T) {
	for _, b := range everyByte() {
		for _, host := range []string{b + "1.2", "1" + b + ".2", "1." + b + ".2", "[1.2" + b, b + "1.2]"} {
			checkBelongs(t, host, "2", modelBelongs(host, "2"))
			checkBelongs(t, host, host, true)
		}
		for _, path := range []string{b, "/" + b, b + "/", "/a" + b, "/a" + b + "b", "/a/" + b + "/b"} {
			checkDefaultPath(t, path, modelDefaultPath(path))
			for _, of := range []string{"/a", "/a/", "/", b, "/" + b, path} {
				checkUnder(t, path, of, modelUnder(path, of))
			}
		}
	}
}
