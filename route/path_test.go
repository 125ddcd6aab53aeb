package route_test

import (
	"math"
	"slices"
	"strings"
	"testing"

	"turnpike/api"
	"turnpike/radix"
	"turnpike/route"
)

func checkPath(t *testing.T, x *route.Table, number int, want string, wantErr api.Errno, values ...api.Param) {
	t.Helper()
	if s, err := x.Path(number, values); s != want || err != wantErr {
		t.Errorf("Path(%d, %.200v) = %.200q, %d; want %.200q, %d", number, values, s, int(err), want, int(wantErr))
	}
}

// 14.4: there is no route of a number below 0, or from Len on.
func TestPathRoutes(t *testing.T) {
	x := made(t, false, example()...)
	for _, n := range []int{-1, 4, 5, 256, math.MinInt, math.MaxInt} {
		checkPath(t, x, n, "", api.ErrRoutes, param("x", "a"), param("r", ""))
		checkPath(t, x, n, "", api.ErrRoutes)
	}
	checkPath(t, made(t, false), 0, "", api.ErrRoutes)
	checkPath(t, x, 0, "/a", api.OK)
	checkPath(t, x, 1, "/a", api.OK)
	checkPath(t, x, 2, "/a", api.OK, param("x", "a"))
	checkPath(t, x, 3, "/d/", api.OK, param("r", ""))
}

// 14.4: static pieces stand as they are, those that look like others with them.
func TestPathStatic(t *testing.T) {
	for _, pattern := range []string{"/", "//", "/a//b/", "/a:x/b*r/%2f", "/./..", "/" + strings.Repeat("a", 1023)} {
		checkPath(t, made(t, false, at(pattern, "")), 0, pattern, api.OK)
		checkPath(t, made(t, false, at(pattern, "")), 0, pattern, api.OK, param("x", " "), param("r", "?"), param("", ""))
	}
}

// 14.4: which values a parameter may have, and which the rest.
func TestPathValues(t *testing.T) {
	x := made(t, false, at("/a/:x/b", ""), at("/a/*x", ""))
	for _, value := range []string{"a", ":x", "*r", "%2F", "..", "~!$&'()*+,;=:@-._", strings.Repeat("%00", 5000)} {
		checkPath(t, x, 0, "/a/"+value+"/b", api.OK, param("x", value))
		checkPath(t, x, 1, "/a/"+value, api.OK, param("x", value))
	}
	for _, value := range []string{"", "/", "a/b", "a/", "/a", "//", "../..", "%41/%42"} {
		checkPath(t, x, 0, "", api.ErrValues, param("x", value))
		checkPath(t, x, 1, "/a/"+value, api.OK, param("x", value))
	}
	for _, value := range []string{" ", "a b", "?", "a?b", "#", "%", "%4", "%4/1", "%gg", "\x00", "\xff", "ä", "a\n", "[", "a/ ", "/?", "\"", "\\"} {
		checkPath(t, x, 0, "", api.ErrValues, param("x", value))
		checkPath(t, x, 1, "", api.ErrValues, param("x", value))
	}
}

// 14.4: a name's value is the first of that name, by its bytes; Has is not looked at, nor are others.
func TestPathNames(t *testing.T) {
	x := made(t, false, at("/:x/:y/*z", "GET"))
	a, b, c := param("x", "1"), param("y", "2"), param("z", "")
	checkPath(t, x, 0, "/1/2/", api.OK, a, b, c)
	checkPath(t, x, 0, "/1/2/", api.OK, c, b, a)
	checkPath(t, x, 0, "/1/2/", api.OK, param("X", "9"), param("q", "?"), c, b, a, param("x", "8"), param("y", ""), param("z", " "))
	checkPath(t, x, 0, "/1/2/3", api.OK, api.Param{Name: "z", Value: "3"}, api.Param{Name: "y", Value: "2"}, api.Param{Name: "x", Value: "1"})
	checkPath(t, x, 0, "", api.ErrValues, param("x", ""), a, b, c)
	checkPath(t, x, 0, "", api.ErrValues, a, b, param("z", "?"), c)
	checkPath(t, x, 0, "", api.ErrValues)
	checkPath(t, x, 0, "", api.ErrValues, b, c)
	checkPath(t, x, 0, "", api.ErrValues, a, c)
	checkPath(t, x, 0, "", api.ErrValues, a, b)
	checkPath(t, x, 0, "", api.ErrValues, a, b, param("Z", ""))
	checkPath(t, x, 0, "", api.ErrValues, a, b, param("*z", ""))
	checkPath(t, x, 0, "", api.ErrValues, param(":x", "1"), param("x ", "1"), b, c)
}

// 14.4, 14.6: all values of a few signs, held against the model; and the pattern fits what is told, with these values.
func TestPathModel(t *testing.T) {
	l := []api.Route{at("/", ""), at("/:x", ""), at("/a/:x/:y", ""), at("/:x/*y", ""), at("/*x", ""), at("/:y/a:x/:x/", "")}
	x, m := made(t, false, l...), model{routes: l}
	some := texts([]string{"/", "a", "%", "4", "?"}, 3)
	for _, first := range some {
		for _, second := range some {
			values := []api.Param{param("x", first), param("y", second)}
			for n := -1; n <= len(l); n++ {
				want, wantErr := m.path(n, values)
				checkPath(t, x, n, want, wantErr, values...)
				if wantErr == api.OK {
					checkFitsBack(t, l[n].Pattern, want, values)
				}
			}
		}
	}
}

func checkFitsBack(t *testing.T, pattern, path string, values []api.Param) {
	t.Helper()
	told, fits := radix.Fits(pattern, path)
	if !fits {
		t.Fatalf("%q does not fit %q", pattern, path)
	}
	for _, p := range told {
		if !slices.Contains(values, p) {
			t.Fatalf("%q fits %q with %v; want of %v", pattern, path, told, values)
		}
	}
}

// 14.6: with the values of a match the path comes back.
func TestThereAndBack(t *testing.T) {
	x := made(t, false, at("/", ""), at("/:x", ""), at("/a/:x", ""), at("/a/:x/*y", ""), at("/*x", ""), at("/b/", ""))
	for _, path := range texts([]string{"/", "a", "b", "%4a"}, 6) {
		m := x.Match("GET", path)
		if m.Kind != api.MatchFound {
			continue
		}
		checkPath(t, x, m.Route, path, api.OK, m.Params...)
	}
}
