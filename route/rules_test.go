package route_test

import (
	"fmt"
	"slices"
	"strings"
	"testing"

	"turnpike/api"
	"turnpike/route"
)

// soil writes over all of a list, its spare room too.
func soil[T any](l []T, with T) {
	l = l[:cap(l)]
	for i := range l {
		l[i] = with
	}
}

// 14.5: a nil table.
func TestNil(t *testing.T) {
	var x *route.Table
	for _, path := range append(somePaths(), "/a/b/c") {
		checkNone(t, x, path)
		checkTexts(t, "Allow", x.Allow(path), "")
	}
	checkTexts(t, "All", x.All(), "")
	if x.Len() != 0 || x.Nodes() != 0 {
		t.Errorf("Len() = %d, Nodes() = %d", x.Len(), x.Nodes())
	}
	for n := -2; n < 3; n++ {
		checkPath(t, x, n, "", api.ErrRoutes)
		checkPath(t, x, n, "", api.ErrRoutes, param("x", "a"))
	}
}

// R4: what is handed in is not kept.
func TestNotKept(t *testing.T) {
	l := example()
	x := made(t, false, l...)
	for _, r := range l {
		soil(r.Methods, "SOILED")
	}
	soil(l, at("/soiled", "SOILED"))
	checkTable(t, x, model{routes: example()})
	checkPath(t, x, 2, "/q", api.OK, param("x", "q"))
}

// R4: what is handed in is not changed, what lies behind its end neither.
func TestNotChanged(t *testing.T) {
	methods := []string{"PUT", "GET", "A", "behind"}
	l := []api.Route{{Methods: methods[:3], Pattern: "/:x"}, at("/a", ""), at("/behind", "B")}
	values := []api.Param{param("x", "v"), param("y", "w"), param("behind", "z")}
	x := made(t, true, l[:2]...)
	route.New(append(l[:2:2], at("", "")), true)
	checkPath(t, x, 0, "/v", api.OK, values[:2]...)
	x.Match("HEAD", "/b")
	x.Allow("/b")
	x.All()
	if strings.Join(methods, " ") != "PUT GET A behind" || told(l) != `"/:x" "PUT GET A"; "/a" ""; "/behind" "B"` {
		t.Error(methods, told(l))
	}
	if !slices.Equal(values, []api.Param{param("x", "v"), param("y", "w"), param("behind", "z")}) {
		t.Error(values)
	}
}

// R4: what is written into an answer, its spare room too, shows in no other one and in nothing that is kept.
func TestAnswersAreNew(t *testing.T) {
	for n := range 20 {
		pattern, path, methods := "", "", "A"
		for i := range n {
			pattern += fmt.Sprint("/:x", i)
			path += fmt.Sprint("/", i)
			methods += fmt.Sprint(" M", i)
		}
		l := []api.Route{at(pattern+"/*r", methods), at("/", "GET")}
		x, m := made(t, false, l...), model{routes: l}
		path += "/s"
		for _, method := range []string{"A", "B", "OPTIONS"} {
			first, second := x.Match(method, path), x.Match(method, path)
			soil(first.Params, param("soiled", ""))
			if soil(first.Allow, "SOILED"); !same(second, m.match(method, path)) || !same(x.Match(method, path), second) {
				t.Fatalf("matches share memory: %v", second)
			}
		}
		for _, call := range []func() []string{x.All, func() []string { return x.Allow(path) }} {
			first, second := call(), call()
			want := slices.Clone(second)
			if soil(first, "SOILED"); !slices.Equal(second, want) || !slices.Equal(call(), want) {
				t.Fatalf("lists share memory: %q", second)
			}
		}
		checkTable(t, x, m)
	}
}

// R5: two tables of the same routes know nothing of one another, and asking changes nothing.
func TestTablesAreApart(t *testing.T) {
	l := example()
	x, y := made(t, true, l...), made(t, false, l...)
	for range 3 {
		checkTable(t, x, model{l, true})
		checkTable(t, y, model{l, false})
	}
	// One that is refused has taken part of what stands ahead of its fault.
	refused(t, append(slices.Clone(l), at("/n", "GET"), at("/a", "NEW"), at("/a", "")), 6, api.ErrTwice)
	checkTable(t, x, model{l, true})
	checkTable(t, made(t, true, l...), model{l, true})
}

// R5: the same is told each time, whatever the order in which a map is gone through.
func TestSameEachTime(t *testing.T) {
	var l []api.Route
	for i := range 30 {
		l = append(l, at(fmt.Sprint("/", i%5), fmt.Sprint("M", i, " N", i)))
	}
	want := made(t, false, l...)
	for range 50 {
		x := made(t, false, l...)
		if !slices.Equal(x.All(), want.All()) || !slices.IsSorted(x.All()) || !slices.Equal(x.Allow("/3"), want.Allow("/3")) || !slices.IsSorted(x.Allow("/3")) {
			t.Fatal(x.All(), x.Allow("/3"))
		}
	}
}

// R1: whatever the texts and numbers, no call panics.
func TestNoPanic(t *testing.T) {
	some := texts([]string{"/", ":", "*", "a", "%", "\xff", "?"}, 3)
	for _, pattern := range some {
		for _, methods := range [][]string{nil, {}, {"GET"}, {"\xff"}, {"", ""}} {
			x, _, _ := route.New([]api.Route{{Methods: methods, Pattern: pattern}}, true)
			for _, s := range some[:60] {
				x.Match(s, s)
				x.Match("HEAD", s)
				x.Allow(s)
				x.Path(len(s)-1, []api.Param{{Name: s, Value: s}, {Name: "a", Value: s}})
			}
			if x.Len() > x.Nodes() {
				t.Error(x.Len(), x.Nodes())
			}
		}
	}
}
