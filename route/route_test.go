package route_test

import (
	"fmt"
	"math/rand"
	"slices"
	"strings"
	"testing"

	"turnpike/api"
	"turnpike/route"
)

// at is a route of a pattern and of methods, which stand in one text with spaces between.
func at(pattern, methods string) api.Route {
	return api.Route{Methods: strings.Fields(methods), Pattern: pattern}
}

// made is a table of routes that are right.
func made(t *testing.T, slash bool, l ...api.Route) *route.Table {
	t.Helper()
	x, n, err := route.New(l, slash)
	if x == nil || n != 0 || err != api.OK {
		t.Fatalf("New(%s) = %v, %d, %d", told(l), x, n, int(err))
	}
	return x
}

// told is routes as text.
func told(l []api.Route) string {
	var s []string
	for _, r := range l {
		s = append(s, fmt.Sprintf("%.40q %.80q", r.Pattern, strings.Join(r.Methods, " ")))
	}
	return fmt.Sprintf("%.600s", strings.Join(s, "; "))
}

// refused is what New says of routes of which no table is made.
func refused(t *testing.T, l []api.Route, n int, err api.Errno) {
	t.Helper()
	for _, slash := range []bool{false, true} {
		if x, gotN, gotErr := route.New(l, slash); x != nil || gotN != n || gotErr != err {
			t.Errorf("New(%s) = %v, %d, %d; want none, %d, %d", told(l), x, gotN, int(gotErr), n, int(err))
		}
	}
	if gotN, gotErr := modelNew(l); gotN != n || gotErr != err {
		t.Errorf("the model says %d, %d of %s; want %d, %d", gotN, int(gotErr), told(l), n, int(err))
	}
}

// Example 3.
func TestExampleNew(t *testing.T) {
	refused(t, []api.Route{at("/:a", "GET"), at("/:b", "GET")}, 1, api.ErrNames)
	refused(t, []api.Route{at("/a", "GET"), at("/a", "GET")}, 1, api.ErrTwice)
	refused(t, []api.Route{at("/a", ""), at("/a", "")}, 1, api.ErrTwice)
	refused(t, []api.Route{at("/a", "GET GET")}, 0, api.ErrMethods)
}

// 14.1: what is no pattern, at the edges of chapter 13.
func TestPatterns(t *testing.T) {
	for _, bad := range []string{"", "a", "/:", "/:1", "/:a/:a", "/*a/b", "/a b", "/%4", "/:a-b", "/a?b", "/" + strings.Repeat("a", 1024)} {
		refused(t, []api.Route{at(bad, "GET")}, 0, api.ErrPattern)
		refused(t, []api.Route{at("/", "GET"), at("/a", ""), at(bad, "")}, 2, api.ErrPattern)
	}
	for _, good := range []string{"/", "//", "/a/", "/a:b*c", "/:a/:b/*c", "/%4a", "/" + strings.Repeat("a", 1023)} {
		made(t, false, at(good, "GET"))
	}
}

// 14.1: what is no method, at the edges of chapter 11, and what stands there twice.
func TestMethods(t *testing.T) {
	for _, bad := range []string{"", " ", "G T", "GET ", "G@T", "GET,PUT", "G\xc3\xa4T", "GET\x00", strings.Repeat("M", 25)} {
		refused(t, []api.Route{{Methods: []string{bad}, Pattern: "/a"}}, 0, api.ErrMethods)
		refused(t, []api.Route{at("/b", "GET"), {Methods: []string{"GET", "PUT", bad}, Pattern: "/a"}}, 1, api.ErrMethods)
		refused(t, []api.Route{{Methods: []string{bad, "GET"}, Pattern: "/a"}}, 0, api.ErrMethods)
	}
	for _, twice := range []string{"GET PUT GET", "PUT GET GET", "GET GET PUT", "a b c d e f a"} {
		refused(t, []api.Route{at("/a", twice)}, 0, api.ErrMethods)
	}
	made(t, false, at("/a", "GET get Get HEAD OPTIONS CONNECT * "+strings.Repeat("M", 24)+" !#$%&'*+-.^_`|~09"))
}

// 14.1: routes of one pattern part the methods among them; one of them may be for all.
func TestShares(t *testing.T) {
	made(t, false, at("/a", "GET"), at("/a", "HEAD OPTIONS"), at("/a", ""), at("/a", "get"), at("/b", "GET"), at("/b", ""), at("/:a", "GET"), at("/:a/", "GET"), at("/*b", "GET"))
	refused(t, []api.Route{at("/a", "GET PUT"), at("/a", "HEAD"), at("/a", "POST DELETE PUT")}, 2, api.ErrTwice)
	refused(t, []api.Route{at("/:a/b", ""), at("/:a/b", "GET"), at("/:a/b", "PUT"), at("/:a/b", "")}, 3, api.ErrTwice)
}

// 14.1: patterns that are alike have the same names, whatever their methods.
func TestNames(t *testing.T) {
	refused(t, []api.Route{at("/:a", "GET"), at("/:b", "PUT")}, 1, api.ErrNames)
	refused(t, []api.Route{at("/:a", ""), at("/:A", "")}, 1, api.ErrNames)
	refused(t, []api.Route{at("/x/*a", "GET"), at("/x/:a", "GET"), at("/x/*b", "")}, 2, api.ErrNames)
	refused(t, []api.Route{at("/:a/b/:c", ""), at("/:a/:c", ""), at("/:c/b/:a", "")}, 2, api.ErrNames)
	made(t, false, at("/:a/b", ""), at("/:b/c", ""), at("/:c/:a", ""), at("/:c/*b", ""))
}

// R2: of the first route with which something is wrong, the first error.
func TestWhichError(t *testing.T) {
	refused(t, []api.Route{at("/:", "GET GET")}, 0, api.ErrPattern)
	refused(t, []api.Route{at("/:a", "GET"), at("/:b", "PUT PUT")}, 1, api.ErrMethods)
	refused(t, []api.Route{at("/:a", "GET"), at("/:a", "GET GET")}, 1, api.ErrMethods)
	refused(t, []api.Route{at("/:a", "GET"), at("/:b", "GET")}, 1, api.ErrNames)
	refused(t, []api.Route{at("/a", "GET"), at("/a", "GET"), at("", "")}, 1, api.ErrTwice)
	refused(t, []api.Route{at("/a", "GET"), at("/b", "@"), at("/a", "GET")}, 1, api.ErrMethods)
	refused(t, []api.Route{at("/:a", ""), at("/:b", ""), at("/:a", "")}, 1, api.ErrNames)
}

// 14.1: at most 256 routes; of more, nothing else is looked at.
func TestMaxRoutes(t *testing.T) {
	var l []api.Route
	for i := range 256 {
		l = append(l, at(fmt.Sprint("/", i), "GET"))
	}
	x := made(t, false, l...)
	if m := x.Match("GET", "/255"); x.Len() != 256 || m.Kind != api.MatchFound || m.Route != 255 {
		t.Errorf("Len() = %d, Match = %v", x.Len(), m)
	}
	refused(t, append(slices.Clone(l), at("/256", "GET")), 256, api.ErrRoutes)
	refused(t, append(slices.Clone(l), at("", "@"), at("", "@")), 256, api.ErrRoutes)
	refused(t, append([]api.Route{at("", "@")}, l...), 256, api.ErrRoutes)
	refused(t, make([]api.Route, 256), 0, api.ErrPattern)
	refused(t, make([]api.Route, 257), 256, api.ErrRoutes)
	l[255] = at("/0", "GET")
	refused(t, l, 255, api.ErrTwice)
}

// What a route has beside its methods and its pattern is not looked at.
func TestMiddlesAndHandler(t *testing.T) {
	r := at("/a", "GET")
	r.Middles = []api.Middle{{Kind: 99, N: -1}}
	r.Handler = api.Handler{Kind: -7}
	if m := made(t, false, r).Match("GET", "/a"); m.Kind != api.MatchFound {
		t.Error(m)
	}
}

// 14.1: of many methods each is looked at, and no more often than need be.
func TestManyMethods(t *testing.T) {
	var l []string
	for i := range 100000 {
		l = append(l, fmt.Sprint("M", i))
	}
	x := made(t, false, api.Route{Methods: l, Pattern: "/a"}, at("/a", "GET"))
	if m := x.Match("M99999", "/a"); m.Kind != api.MatchFound || m.Route != 0 {
		t.Error(m)
	}
	if n := len(x.Allow("/a")); n != len(l)+3 {
		t.Error(n)
	}
	refused(t, []api.Route{at("/a", ""), {Methods: []string{l[7], l[8], l[7]}, Pattern: "/b"}}, 1, api.ErrMethods)
	if _, n, err := route.New([]api.Route{{Methods: append(l, "M0"), Pattern: "/a"}}, false); n != 0 || err != api.ErrMethods {
		t.Error(n, err)
	}
}

// somePatterns has some that are alike, and some that are none.
func somePatterns() []string {
	return []string{"/", "/a", "/a/", "/:x", "/:y", "/:x/", "/a/:y", "/:x/b", "/a/b", "/*r", "/*s", "/a/*r", "", "/:"}
}

func someMethods() []string {
	return []string{"", "GET", "HEAD", "OPTIONS", "PUT", "GET PUT", "DELETE HEAD", "PUT OPTIONS", "GET HEAD", "GET GET", "@"}
}

func somePaths() []string {
	return append(texts([]string{"/", "a", "b"}, 5), "/a/b/", "/%61", "/%6", "/a?", "/a?/", "*", "http://a", "http://a/", "/a b")
}

func askedMethods() []string {
	return []string{"GET", "HEAD", "OPTIONS", "PUT", "DELETE", "get", "", "@", strings.Repeat("M", 25)}
}

// checkTable holds all that a table tells against the model.
func checkTable(t *testing.T, x *route.Table, m model) {
	t.Helper()
	for _, path := range somePaths() {
		for _, method := range askedMethods() {
			if got, want := x.Match(method, path), m.match(method, path); !same(got, want) {
				t.Fatalf("Match(%q, %q) = %v; want %v; routes: %s", method, path, got, want, told(m.routes))
			}
		}
		if got, want := x.Allow(path), m.allow(path); !slices.Equal(got, want) {
			t.Fatalf("Allow(%q) = %q; want %q; routes: %s", path, got, want, told(m.routes))
		}
	}
	if got, want := x.All(), m.all(); !slices.Equal(got, want) {
		t.Fatalf("All() = %q; want %q; routes: %s", got, want, told(m.routes))
	}
	if x.Len() != len(m.routes) || x.Nodes() != m.nodes() {
		t.Fatalf("Len() = %d, Nodes() = %d; want %d, %d; routes: %s", x.Len(), x.Nodes(), len(m.routes), m.nodes(), told(m.routes))
	}
}

// checkNew holds New against the model, and the table, if there is one.
func checkNew(t *testing.T, l []api.Route, slash bool) {
	t.Helper()
	x, n, err := route.New(l, slash)
	if wantN, wantErr := modelNew(l); n != wantN || err != wantErr || (x == nil) != (err != api.OK) {
		t.Fatalf("New(%s) = %v, %d, %d; want %d, %d", told(l), x, n, int(err), wantN, int(wantErr))
	}
	if err == api.OK {
		checkTable(t, x, model{l, slash})
	}
}

// 14.1 to 14.3: all lists of up to two routes of some patterns and some methods.
func TestAllOfTwo(t *testing.T) {
	var some []api.Route
	for _, p := range []string{"/", "/a", "/a/", "/:x", "/:y", "/*r", ""} {
		for _, m := range []string{"", "GET", "HEAD PUT", "OPTIONS GET", "PUT PUT"} {
			some = append(some, at(p, m))
		}
	}
	for l := range lists(some, 2) {
		checkNew(t, l, false)
		checkNew(t, l, true)
	}
}

// 14.1 to 14.3: rows of routes from fixed seeds.
func TestRows(t *testing.T) {
	for seed := range 600 {
		dice := rand.New(rand.NewSource(int64(seed)))
		var l []api.Route
		for range dice.Intn(12) {
			r := at(somePatterns()[dice.Intn(len(somePatterns()))], someMethods()[dice.Intn(len(someMethods()))])
			if modelRoute(l, r) == api.OK || dice.Intn(20) == 0 {
				l = append(l, r)
			}
		}
		checkNew(t, l, seed%2 == 0)
	}
}
