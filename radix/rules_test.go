package radix_test

import (
	"fmt"
	"slices"
	"strings"
	"testing"

	"turnpike/api"
	"turnpike/radix"
)

// soil writes over all of a list, its spare room too.
func soil[T any](l []T, with T) {
	l = l[:cap(l)]
	for i := range l {
		l[i] = with
	}
}

// R4: what is written into an answer, its spare room too, shows in no other one and in nothing that is kept.
func TestListsAreNew(t *testing.T) {
	for n := range 20 {
		pattern, path := "", ""
		var want []api.Param
		for i := range n {
			pattern += fmt.Sprint("/:x", i)
			path += fmt.Sprint("/", i)
			want = append(want, param(fmt.Sprint("x", i), fmt.Sprint(i)))
		}
		pattern, path, want = pattern+"/*r", path+"/s", append(want, param("r", "s"))
		x := kept(t, pattern)
		calls := []func() []api.Param{
			func() []api.Param { l, _ := radix.Fits(pattern, path); return l },
			func() []api.Param { _, _, l, _ := x.Find(path); return l },
		}
		for _, call := range calls {
			first, second := call(), call()
			soil(first, api.Param{Name: "soiled"})
			if third := call(); !slices.Equal(second, want) || !slices.Equal(third, want) {
				t.Fatalf("lists share memory: %v, %v; want %v", second, third, want)
			}
		}
	}
}

// R5: two trees know nothing of one another, not even where the same texts are kept in both.
func TestTreesAreApart(t *testing.T) {
	patterns := []string{"/a/b", "/a/c", "/a/:x", "/a/:x/d", "/*r", "/"}
	x, y := kept(t, patterns...), kept(t, patterns...)
	was := all(y)
	for _, p := range patterns {
		checkRemove(t, x, p, "at "+p, true)
		checkInsert(t, x, "/a/b"+p, "v", api.OK)
	}
	if got := all(y); !slices.Equal(got, was) || y.Nodes() != kept(t, patterns...).Nodes() || y.Len() != len(patterns) {
		t.Errorf("All() = %q; want %q", got, was)
	}
	checkFound(t, y, "/a/e/d", "/a/:x/d", param("x", "e"))
}

// R5: asking changes nothing.
func TestAskingChangesNothing(t *testing.T) {
	patterns := []string{"/a/b", "/a/c", "/a/:x", "/a/:x/d", "/*r", "/"}
	x := kept(t, patterns...)
	for range 3 {
		for path := range texts([]string{"/", "a", "b", ":x", "%"}, 4) {
			x.Find(path)
			x.Get(path)
		}
		if got := all(x); len(got) != 6 || x.Len() != 6 {
			t.Fatalf("All() = %q", got)
		}
		checkNodes(t, x, 7)
		checkFound(t, x, "/a/e/f", "/*r", param("r", "a/e/f"))
	}
}

// R2: with an error, or where there is nothing, every other answer is the zero value.
func TestNothingBesideNo(t *testing.T) {
	x := kept(t, "/:a", "/:a/b")
	for _, path := range []string{"", "/", "/x/c", "/x/b/", "/ "} {
		if v, p, l, ok := x.Find(path); v != "" || p != "" || len(l) != 0 || ok {
			t.Errorf("Find(%q) = %q, %q, %v, %t", path, v, p, l, ok)
		}
		if l, ok := radix.Fits("/:a/b", path); len(l) != 0 || ok {
			t.Errorf("Fits(%q) = %v, %t", path, l, ok)
		}
	}
	for _, bad := range []string{"", "/ ", "/:b", strings.Repeat("/", 1025)} {
		if v, ok := x.Remove(bad); v != "" || ok {
			t.Errorf("Remove(%.20q) = %q, %t", bad, v, ok)
		}
	}
}

// R1: whatever the texts, no call panics, on a tree and on none.
func TestNoPanic(t *testing.T) {
	for _, x := range []*radix.Tree[int]{radix.New[int](), nil} {
		for a := range texts([]string{"/", ":", "*", "a", "%", "\xff", "?"}, 4) {
			for _, b := range []string{"", "/", "/a", "/:a", a} {
				radix.Compare(a, b)
				radix.Compare(b, a)
				radix.Fits(a, b)
				radix.Fits(b, a)
			}
			x.Find(a)
			x.Remove(a)
			x.Insert(a, 1)
			x.Get(a)
			if len(a) == 3 {
				x.Remove(a)
			}
		}
		if n := x.Nodes(); n < x.Len() {
			t.Error(n, x.Len())
		}
	}
}
