package route_test

import (
	"slices"
	"strings"
	"testing"

	"turnpike/api"
	"turnpike/radix"
	"turnpike/route"
)

// example is the routes of the chapter's examples.
func example() []api.Route {
	return []api.Route{at("/a", "GET"), at("/a", ""), at("/:x", "PUT DELETE"), at("/d/*r", "GET")}
}

func param(name, value string) api.Param { return api.Param{Name: name, Value: value, Has: true} }

func checkMatch(t *testing.T, x *route.Table, method, path string, want api.Match) {
	t.Helper()
	if got := x.Match(method, path); !same(got, want) {
		t.Errorf("Match(%q, %.80q) = %v; want %v", method, path, got, want)
	}
}

func checkFound(t *testing.T, x *route.Table, method, path string, number int, pattern string, l ...api.Param) {
	t.Helper()
	checkMatch(t, x, method, path, api.Match{Kind: 1, Route: number, Pattern: pattern, Params: l})
}

// checkAllow is of a path that has routes, none of them for this method.
func checkAllow(t *testing.T, x *route.Table, method, path, pattern, allow string, l ...api.Param) {
	t.Helper()
	checkMatch(t, x, method, path, api.Match{Kind: 2, Route: -1, Pattern: pattern, Params: l, Allow: strings.Fields(allow)})
	checkMatch(t, x, "OPTIONS", path, api.Match{Kind: 3, Route: -1, Pattern: pattern, Params: l, Allow: strings.Fields(allow)})
}

func checkSlash(t *testing.T, x *route.Table, path, to string) {
	t.Helper()
	for _, method := range askedMethods() {
		checkMatch(t, x, method, path, api.Match{Kind: 4, Route: -1, To: to})
	}
}

func checkNone(t *testing.T, x *route.Table, path string) {
	t.Helper()
	for _, method := range askedMethods() {
		checkMatch(t, x, method, path, api.Match{Kind: 0, Route: -1})
	}
}

func checkTexts(t *testing.T, call string, got []string, want string) {
	t.Helper()
	if !slices.Equal(got, strings.Fields(want)) {
		t.Errorf("%s = %q; want %q", call, got, want)
	}
}

// Example 1.
func TestExampleMatch(t *testing.T) {
	x := made(t, false, example()...)
	checkFound(t, x, "GET", "/a", 0, "/a")
	checkFound(t, x, "HEAD", "/a", 0, "/a")
	checkFound(t, x, "POST", "/a", 1, "/a")
	checkAllow(t, x, "GET", "/b", "/:x", "DELETE OPTIONS PUT", param("x", "b"))
	checkFound(t, x, "PUT", "/b", 2, "/:x", param("x", "b"))
	checkFound(t, x, "GET", "/d/", 3, "/d/*r", param("r", ""))
	checkAllow(t, x, "GET", "/d", "/:x", "DELETE OPTIONS PUT", param("x", "d"))
	checkNone(t, x, "/a/")
	checkSlash(t, made(t, true, example()...), "/a/", "/a")
	checkNone(t, x, "a")
}

// Example 2.
func TestExampleAll(t *testing.T) {
	x := made(t, false, example()...)
	checkTexts(t, "All()", x.All(), "DELETE GET HEAD OPTIONS PUT")
	checkPath(t, x, 3, "/d/x/y", api.OK, api.Param{Name: "r", Value: "x/y"})
	checkPath(t, x, 2, "", api.ErrValues, api.Param{Name: "x", Value: "a/b"})
}

// 14.2: of HEAD the route that has it comes ahead of the one that has GET, and that ahead of the one for all; GET is not answered by HEAD's.
func TestWhichRoute(t *testing.T) {
	head, get, all, options := at("/a", "HEAD"), at("/a", "GET"), at("/a", ""), at("/a", "OPTIONS")
	checkFound(t, made(t, false, all, get, head), "HEAD", "/a", 2, "/a")
	checkFound(t, made(t, false, all, get), "HEAD", "/a", 1, "/a")
	checkFound(t, made(t, false, all), "HEAD", "/a", 0, "/a")
	checkFound(t, made(t, false, all, head), "GET", "/a", 0, "/a")
	checkAllow(t, made(t, false, head), "GET", "/a", "/a", "HEAD OPTIONS")
	checkFound(t, made(t, false, all, options), "OPTIONS", "/a", 1, "/a")
	checkFound(t, made(t, false, get, all), "OPTIONS", "/a", 1, "/a")
	checkFound(t, made(t, false, get, options), "OPTIONS", "/a", 1, "/a")
	checkMatch(t, made(t, false, get, head), "OPTIONS", "/a", api.Match{Kind: 3, Route: -1, Pattern: "/a", Allow: []string{"GET", "HEAD", "OPTIONS"}})
}

// 14.2: methods are taken byte by byte; what is no method has the route for all, if there is one.
func TestOtherMethods(t *testing.T) {
	some := made(t, false, at("/a", "GET get2"))
	all := made(t, false, at("/a", "GET"), at("/a", ""))
	for _, method := range []string{"", "get", "Get", "GET ", " GET", "G", "GETS", "Head", "options", "@", "get2,GET", strings.Repeat("M", 25)} {
		checkMatch(t, some, method, "/a", api.Match{Kind: 2, Route: -1, Pattern: "/a", Allow: []string{"GET", "HEAD", "OPTIONS", "get2"}})
		checkFound(t, all, method, "/a", 1, "/a")
	}
}

// 14.2: the pattern is chosen ahead of the method: a later one that has the method has no part.
func TestPatternFirst(t *testing.T) {
	x := made(t, true, at("/*r", "PUT"), at("/:x", "GET"), at("/a/*r", "GET"), at("/a/:y", "PUT"), at("/*r", ""))
	checkAllow(t, x, "PUT", "/a", "/:x", "GET HEAD OPTIONS", param("x", "a"))
	checkAllow(t, x, "GET", "/a/b", "/a/:y", "OPTIONS PUT", param("y", "b"))
	checkFound(t, x, "GET", "/a/b/c", 2, "/a/*r", param("r", "b/c"))
	checkFound(t, x, "PUT", "/b/c", 0, "/*r", param("r", "b/c"))
	checkFound(t, x, "GET", "/", 4, "/*r", param("r", ""))
}

// 14.2: values are told raw, and dots and triples of a path are taken as they stand.
func TestRaw(t *testing.T) {
	x := made(t, false, at("/:x/a", "GET"), at("/a/*r", "GET"))
	checkFound(t, x, "GET", "/%2f%41/a", 0, "/:x/a", param("x", "%2f%41"))
	checkFound(t, x, "GET", "/a/../%7e//", 1, "/a/*r", param("r", "../%7e//"))
	checkNone(t, x, "/x/%61")
	checkNone(t, x, "/A/b")
}

// 14.2: the other path, with slash and without.
func TestSlash(t *testing.T) {
	l := []api.Route{at("/a", "GET"), at("/b/", ""), at("/c", "PUT"), at("/c/", "PUT"), at("/d/*r", "GET"), at("//", "GET")}
	x, plain := made(t, true, l...), made(t, false, l...)
	for _, c := range [][2]string{{"/a/", "/a"}, {"/b", "/b/"}, {"/b//", "/b/"}, {"/d", "/d/"}, {"///", "//"}} {
		checkSlash(t, x, c[0], c[1])
		checkNone(t, plain, c[0])
	}
	checkAllow(t, x, "GET", "/c", "/c", "OPTIONS PUT")
	checkAllow(t, x, "GET", "/c/", "/c/", "OPTIONS PUT")
	for _, path := range []string{"/", "/a//", "/b///", "/e", "/e/", "/b/c", "/////"} {
		checkNone(t, x, path)
	}
}

// 14.2: / has no other path, and // has / as its own.
func TestRootSlash(t *testing.T) {
	checkNone(t, made(t, true, at("//", "GET"), at("/a", "GET")), "/")
	checkSlash(t, made(t, true, at("/", "GET")), "//", "/")
	checkNone(t, made(t, true, at("/", "GET")), "/a")
}

// 14.2: what is no path is none, even if it would be one with a / more, or one less.
func TestNoPath(t *testing.T) {
	for _, slash := range []bool{false, true} {
		x := made(t, slash, at("/", ""), at("/:x", ""), at("/a/*r", ""), at("/a/b", "GET"))
		for _, path := range []string{"", "a", "a/", "*", "/a?", "/a?b", "/?", "/a b", "/%4", "/%", "/a%/", "/a#", "/\x00", "/\xff", "http://a", "http://a/a", "/a/b\n", "\\a"} {
			checkNone(t, x, path)
			checkTexts(t, "Allow("+path+")", x.Allow(path), "")
		}
	}
}

// 14.2, 14.3: a path that is longer than any pattern.
func TestLongPath(t *testing.T) {
	long := strings.Repeat("/ab%20", 20000)
	checkFound(t, made(t, false, at("/*r", "GET")), "GET", long, 0, "/*r", param("r", long[1:]))
	checkSlash(t, made(t, true, at("/"+strings.Repeat("a", 1023), "GET")), "/"+strings.Repeat("a", 1023)+"/", "/"+strings.Repeat("a", 1023))
	checkNone(t, made(t, true, at("/:x/:y", "GET")), long)
}

// 14.3: Allow, by the first pattern alone; rising byte by byte, each once.
func TestAllow(t *testing.T) {
	x := made(t, true, at("/a", "PUT GET"), at("/a", "a Z HEAD"), at("/a", ""), at("/b", "HEAD"), at("/c", ""), at("/:x", "PATCH"), at("/d/", "OPTIONS get"), at("/e", "OPTIONS"))
	checkTexts(t, "Allow(/a)", x.Allow("/a"), "GET HEAD OPTIONS PUT Z a")
	checkTexts(t, "Allow(/b)", x.Allow("/b"), "HEAD OPTIONS")
	checkTexts(t, "Allow(/c)", x.Allow("/c"), "OPTIONS")
	checkTexts(t, "Allow(/d)", x.Allow("/d"), "OPTIONS PATCH")
	checkTexts(t, "Allow(/d/)", x.Allow("/d/"), "OPTIONS get")
	checkTexts(t, "Allow(/e)", x.Allow("/e"), "OPTIONS")
	checkTexts(t, "Allow(/e/)", x.Allow("/e/"), "")
	checkTexts(t, "Allow()", x.Allow(""), "")
	checkTexts(t, "All()", x.All(), "GET HEAD OPTIONS PATCH PUT Z a get")
}

// 14.3: HEAD comes with GET alone, in All too.
func TestAll(t *testing.T) {
	checkTexts(t, "All()", made(t, false).All(), "OPTIONS")
	checkTexts(t, "All()", made(t, false, at("/a", "")).All(), "OPTIONS")
	checkTexts(t, "All()", made(t, false, at("/a", "PUT"), at("/b", "PUT"), at("/", "")).All(), "OPTIONS PUT")
	checkTexts(t, "All()", made(t, false, at("/a", "PUT"), at("/b", "GET")).All(), "GET HEAD OPTIONS PUT")
	checkTexts(t, "All()", made(t, false, at("/a", "HEAD get"), at("/b", "HEAD")).All(), "HEAD OPTIONS get")
	checkTexts(t, "All()", made(t, false, at("/b/:x", "OPTIONS"), at("/b/*x", "A")).All(), "A OPTIONS")
}

// 14.3: Len counts routes, Nodes the tree's nodes, in which a pattern of several routes is one.
func TestLenNodes(t *testing.T) {
	for _, c := range []struct {
		l     []api.Route
		nodes int
	}{
		{nil, 1},
		{[]api.Route{}, 1},
		{[]api.Route{at("/", "GET")}, 1},
		{[]api.Route{at("/a/b", "GET"), at("/a/c", "GET")}, 4},
		{[]api.Route{at("/a/b", "GET"), at("/a/b", "PUT"), at("/a/b", "")}, 2},
		{[]api.Route{at("/a/:x", "GET")}, 3},
		{example(), 5}, // the root, /a, the parameter's end, /d/, the rest's end
	} {
		if x := made(t, true, c.l...); x.Len() != len(c.l) || x.Nodes() != c.nodes {
			t.Errorf("Len() = %d, Nodes() = %d of %s; want %d, %d", x.Len(), x.Nodes(), told(c.l), len(c.l), c.nodes)
		}
	}
}

// 14.6: the order of the routes is not seen but in their numbers.
func TestOrders(t *testing.T) {
	l := append(example(), at("/:x", ""), at("/d/:y", "HEAD OPTIONS"))
	x := made(t, true, l...)
	for order := range orders(l) {
		y := made(t, true, order...)
		if !slices.Equal(y.All(), x.All()) || y.Len() != x.Len() || y.Nodes() != x.Nodes() {
			t.Fatal(told(order))
		}
		for _, path := range []string{"/", "/a", "/b", "/a/", "/d", "/d/", "/d/e", "/d/e/", "//", ""} {
			for _, method := range askedMethods() {
				want, got := x.Match(method, path), y.Match(method, path)
				if want.Kind == api.MatchFound {
					is := func(r api.Route) bool {
						return r.Pattern == want.Pattern && slices.Equal(r.Methods, l[want.Route].Methods)
					}
					want.Route = slices.IndexFunc(order, is)
				}
				if !same(got, want) {
					t.Fatalf("Match(%q, %q) = %v; want %v; routes: %s", method, path, got, want, told(order))
				}
			}
		}
	}
}

// checkFollows is 14.6 of one match.
func checkFollows(t *testing.T, x *route.Table, l []api.Route, method, path string) {
	t.Helper()
	m := x.Match(method, path)
	switch m.Kind {
	case api.MatchFound:
		params, fits := radix.Fits(l[m.Route].Pattern, path)
		if !fits || m.Pattern != l[m.Route].Pattern || !slices.Equal(params, m.Params) {
			t.Fatalf("Match(%q, %q) = %v: it does not fit", method, path, m)
		}
		for _, r := range l {
			_, fits := radix.Fits(r.Pattern, path)
			if order, _ := radix.Compare(r.Pattern, m.Pattern); fits && order < 0 {
				t.Fatalf("Match(%q, %q) = %v: %s comes first", method, path, m, r.Pattern)
			}
		}
	case api.MatchMethod:
		if slices.Contains(m.Allow, method) {
			t.Fatalf("Match(%q, %q) = %v: it is allowed", method, path, m)
		}
		for _, allowed := range m.Allow {
			kind := x.Match(allowed, path).Kind
			if kind != api.MatchFound && (allowed != "OPTIONS" || kind != api.MatchOptions) {
				t.Fatalf("Match(%q, %q) is of the kind %d; allowed: %q", allowed, path, kind, m.Allow)
			}
		}
	case api.MatchSlash:
		if kind := x.Match(method, m.To).Kind; kind == api.MatchNone || kind == api.MatchSlash {
			t.Fatalf("Match(%q, %q) is of the kind %d; it is the other one of %q", method, m.To, kind, path)
		}
	}
}

// 14.6: what follows, of all sets of some routes.
func TestFollows(t *testing.T) {
	some := append(example(), at("/", "HEAD"), at("/d/", "OPTIONS"), at("/a/:y/", "GET HEAD"), at("/*r", "A"))
	for bits := range 1 << len(some) {
		var l []api.Route
		for i, r := range some {
			if bits>>i&1 == 1 {
				l = append(l, r)
			}
		}
		x := made(t, true, l...)
		for _, path := range texts([]string{"/", "a", "d"}, 4) {
			for _, method := range []string{"GET", "HEAD", "OPTIONS", "PUT", "A", "B"} {
				checkFollows(t, x, l, method, path)
			}
		}
	}
}
