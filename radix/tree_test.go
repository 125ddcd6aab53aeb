package radix_test

import (
	"errors"
	"fmt"
	"iter"
	"math/rand"
	"slices"
	"strings"
	"testing"

	"turnpike/api"
	"turnpike/radix"
)

// kept is a tree of some patterns, each with itself behind "at ".
func kept(t *testing.T, patterns ...string) *radix.Tree[string] {
	t.Helper()
	x := radix.New[string]()
	for _, p := range patterns {
		checkInsert(t, x, p, "at "+p, api.OK)
	}
	return x
}

func checkInsert(t *testing.T, x *radix.Tree[string], pattern, v string, err api.Errno) {
	t.Helper()
	if got := x.Insert(pattern, v); got != err {
		t.Errorf("Insert(%.80q) = %d; want %d; kept: %.300q", pattern, int(got), int(err), all(x))
	}
}

func checkRemove(t *testing.T, x *radix.Tree[string], pattern, v string, ok bool) {
	t.Helper()
	if got, was := x.Remove(pattern); got != v || was != ok {
		t.Errorf("Remove(%.80q) = %.80q, %t; want %.80q, %t; kept: %.300q", pattern, got, was, v, ok, all(x))
	}
}

func checkGet(t *testing.T, x *radix.Tree[string], pattern, v string, ok bool) {
	t.Helper()
	if got, is := x.Get(pattern); got != v || is != ok {
		t.Errorf("Get(%.80q) = %.80q, %t; want %.80q, %t; kept: %.300q", pattern, got, is, v, ok, all(x))
	}
}

func checkFind(t *testing.T, x *radix.Tree[string], path, v, pattern string, l []api.Param, ok bool) {
	t.Helper()
	gotV, gotP, gotL, found := x.Find(path)
	if gotV != v || gotP != pattern || !slices.Equal(gotL, l) || found != ok {
		t.Errorf("Find(%.80q) = %.80q, %.80q, %v, %t; want %.80q, %.80q, %v, %t; kept: %.300q", path, gotV, gotP, gotL, found, v, pattern, l, ok, all(x))
	}
}

// checkFound is of a tree that kept made.
func checkFound(t *testing.T, x *radix.Tree[string], path, pattern string, l ...api.Param) {
	t.Helper()
	checkFind(t, x, path, "at "+pattern, pattern, l, true)
}

func checkNone(t *testing.T, x *radix.Tree[string], path string) {
	t.Helper()
	checkFind(t, x, path, "", "", nil, false)
}

func checkNodes(t *testing.T, x *radix.Tree[string], n int) {
	t.Helper()
	if got := x.Nodes(); got != n {
		t.Errorf("Nodes() = %d; want %d; kept: %.300q", got, n, all(x))
	}
}

// all is the patterns that All goes over.
func all(x *radix.Tree[string]) []string {
	var l []string
	for p := range x.All() {
		l = append(l, p)
	}
	return l
}

// checkTree holds all that a tree tells against the model.
func checkTree(t *testing.T, x *radix.Tree[string], m *modelTree, paths []string) {
	t.Helper()
	want := m.all()
	if got := all(x); !slices.Equal(got, want) {
		t.Fatalf("All() = %q; want %q", got, want)
	}
	for p, v := range x.All() {
		if w, ok := m.get(p); !ok || v != w {
			t.Fatalf("All() has %q with %q; want %q", p, v, w)
		}
		checkGet(t, x, p, v, true)
	}
	if x.Len() != len(want) {
		t.Fatalf("Len() = %d; want %d", x.Len(), len(want))
	}
	checkNodes(t, x, m.nodes())
	if most := 2*len(want) + 2*m.wilds() + 1; x.Nodes() > most {
		t.Fatalf("Nodes() = %d of %q; at most %d", x.Nodes(), want, most)
	}
	for _, path := range paths {
		v, p, l, ok := m.find(path)
		checkFind(t, x, path, v, p, l, ok)
	}
	if t.Failed() {
		t.FailNow()
	}
}

// Example 4.
func TestExampleFind(t *testing.T) {
	x := kept(t, "/", "/a/:id", "/a/new", "/a/*rest")
	checkFound(t, x, "/a/new", "/a/new")
	checkFound(t, x, "/a/7", "/a/:id", param("id", "7"))
	checkFound(t, x, "/a/", "/a/*rest", param("rest", ""))
	checkFound(t, x, "/a/7/x", "/a/*rest", param("rest", "7/x"))
	checkNone(t, x, "/a")
	checkFound(t, x, "/", "/")
}

// Example 5.
func TestExampleFirst(t *testing.T) {
	x := kept(t, "/:a/x", "/b/*r")
	checkFound(t, x, "/b/x", "/b/*r", param("r", "x"))
	checkFits(t, "/:a/x", "/b/x", []api.Param{param("a", "b")}, true)
}

// Example 6.
func TestExampleNodes(t *testing.T) {
	x := kept(t, "/a/b", "/a/c")
	checkNodes(t, x, 4)
	checkRemove(t, x, "/a/c", "at /a/c", true)
	checkNodes(t, x, 2)
	checkRemove(t, x, "/a/b", "at /a/b", true)
	checkNodes(t, x, 1)
	checkNodes(t, kept(t, "/a/:x"), 3)
}

// 13.4: a new tree, what is kept, what is no pattern, and what has its like there already.
func TestInsert(t *testing.T) {
	x := radix.New[string]()
	checkTree(t, x, &modelTree{}, []string{"/", "/a", ""})
	for _, bad := range []string{"", "a", "/:", "/:a/:a", "/*a/b", "/a b", "/%4", strings.Repeat("/", 1025)} {
		checkInsert(t, x, bad, "v", api.ErrPattern)
		checkGet(t, x, bad, "", false)
		checkRemove(t, x, bad, "", false)
	}
	checkTree(t, x, &modelTree{}, []string{"/", "/a", ""})
	checkInsert(t, x, strings.Repeat("/", 1024), "v", api.OK)
	checkInsert(t, x, "/:a/b/*c", "", api.OK)
	checkInsert(t, x, "/:a/b/*c", "v", api.ErrTwice)
	checkInsert(t, x, "/:b/b/*c", "v", api.ErrTwice)
	checkInsert(t, x, "/:a/b/*d", "v", api.ErrTwice)
	checkInsert(t, x, "/:a/b/:c", "w", api.OK)
	checkGet(t, x, "/:a/b/*c", "", true)
	checkGet(t, x, "/:a/b/:c", "w", true)
	checkTree(t, x, &modelTree{[]string{strings.Repeat("/", 1024), "/:a/b/*c", "/:a/b/:c"}, []string{"v", "", "w"}}, []string{"/", "/x/b/", "/x/b/y"})
}

// 13.4: Remove and Get take just this pattern, with its names.
func TestNamesCount(t *testing.T) {
	patterns := []string{"/:a/b", "/:x/:y", "/s/*r", "/s/t", "/", "/s"}
	x := kept(t, patterns...)
	m := &modelTree{}
	for _, p := range patterns {
		m.insert(p, "at "+p)
	}
	paths := []string{"/", "/s", "/s/", "/s/t", "/q/b", "/q/c", "/s/b"}
	for _, p := range []string{"/:b/b", "/:a/:y", "/:x/:a", "/:y/:x", "/s/*s", "/s/:r", "/t", "/s/", "//", "/:a", "/*a", "/s/tt", "/s/t/", "/:a/", "/:a/bb", "/:a/b/c", "a", ""} {
		checkRemove(t, x, p, "", false)
		checkGet(t, x, p, "", false)
		checkTree(t, x, m, paths)
	}
	for _, p := range patterns {
		checkRemove(t, x, p, "at "+p, true)
		checkRemove(t, x, p, "", false)
		m.remove(p)
		checkTree(t, x, m, paths)
	}
}

// 13.4: a pattern that went may come again, with other names and another value.
func TestComesAgain(t *testing.T) {
	x := kept(t, "/a/:x/b", "/a/:x/c")
	checkRemove(t, x, "/a/:x/b", "at /a/:x/b", true)
	checkInsert(t, x, "/a/:y/b", "new", api.OK)
	checkFind(t, x, "/a/1/b", "new", "/a/:y/b", []api.Param{param("y", "1")}, true)
	checkFound(t, x, "/a/1/c", "/a/:x/c", param("x", "1"))
	checkGet(t, x, "/a/:x/b", "", false)
}

// 13.5: the first of all that fit, by going back where a way that came first does not lead to an end.
func TestFind(t *testing.T) {
	x := kept(t, "/a/b/c", "/a/:x/d", "/:y/b/e", "/*r", "/a/b/*s", "/ab/:z", "/:p/:q/:r/f")
	checkFound(t, x, "/a/b/c", "/a/b/c")
	checkFound(t, x, "/a/b/d", "/a/b/*s", param("s", "d"))
	checkFound(t, x, "/a/c/d", "/a/:x/d", param("x", "c"))
	checkFound(t, x, "/c/b/e", "/:y/b/e", param("y", "c"))
	checkFound(t, x, "/a/c/e", "/*r", param("r", "a/c/e"))
	checkFound(t, x, "/ab/b/e", "/:y/b/e", param("y", "ab"))
	checkFound(t, x, "/ab/", "/*r", param("r", "ab/"))
	checkFound(t, x, "/ab/b", "/ab/:z", param("z", "b"))
	checkFound(t, x, "/a/c/d/f", "/:p/:q/:r/f", param("p", "a"), param("q", "c"), param("r", "d"))
	checkFound(t, x, "/", "/*r", param("r", ""))
	for _, bad := range []string{"", "a", "*", "/a b", "/%", "/%4", "/%zz", "/?", "/a?b", "/#", "http://h/a", "/\xff", "a/b"} {
		checkNone(t, x, bad)
	}
	checkFound(t, x, strings.Repeat("/", 5000), "/*r", param("r", strings.Repeat("/", 4999)))
}

// 13.5, 13.6: where bytes less than / follow, a piece that ends there comes ahead of those that go on.
func TestPiecesNotBytes(t *testing.T) {
	x := kept(t, "/a!", "/a-/b", "/a/b", "/a", "/a/", "/a//", "/a%41", "/a0", "/a/:x", "/a.", "/a/*y", "/A")
	want := []string{"/A", "/a", "/a/", "/a//", "/a/b", "/a/:x", "/a/*y", "/a!", "/a%41", "/a-/b", "/a.", "/a0"}
	if got := all(x); !slices.Equal(got, want) {
		t.Errorf("All() = %q; want %q", got, want)
	}
}

// 13.7: where nodes stand, and where not.
func TestNodes(t *testing.T) {
	for _, c := range []struct {
		patterns string
		nodes    int
	}{
		{"", 1}, {"/", 1}, {"/a", 2}, {"//", 2}, {"/abc", 2}, {"/a /ab", 3}, {"/ab /ac", 4}, {"/ab /ac /a", 4}, {"/a /b", 3},
		{"/:x", 2}, {"/*x", 2}, {"/:x /*y", 3}, {"/:x/", 3}, {"/:x/a", 3}, {"/:x/:y", 4}, {"/:x/*y", 4}, {"/:x/a/:y", 4}, {"/a/*x", 3},
		{"/:x /:y/a", 3}, {"/a/:x /a/", 3}, {"/a/:x /a/b", 4}, {"/a/:x /ab", 5}, {"/a/:x /a", 4}, {"/%41 /%42", 4}, {"/%41 /%51", 4}, {"/a:b /a:c", 4}, {"/a/:x/b /a/:y/c", 6},
		{"/a/b/c /a/b/d /a/e", 6}, {"/:x/ab /:x/ac", 5}, {"/:x/:y /:z", 4},
	} {
		for order := range orders(strings.Fields(c.patterns)) {
			checkNodes(t, kept(t, order...), c.nodes)
		}
	}
}

// 13.7, 13.9: the tree hangs on what is kept alone, whatever the order in which it came and went.
func TestOrderIsNotSeen(t *testing.T) {
	paths := slices.Collect(texts([]string{"/", "a", "b"}, 4))
	for _, l := range [][]string{
		{"/", "/a", "/ab", "/abc", "/b"},
		{"/a/:x", "/a/:x/b", "/a/*r", "/a/", "/ab"},
		{"/:x", "/:x/:y", "/:y/a", "/*r", "/:z/ab"},
		{"/aa/b", "/aa/a", "/aa", "/a/a", "/ab/*r"},
		{"//", "///", "//a", "//:x", "/"},
	} {
		for come := range orders(l) {
			x, m := radix.New[string](), &modelTree{}
			for _, p := range come {
				checkInsert(t, x, p, p, m.insert(p, p))
				checkNodes(t, x, m.nodes())
			}
			checkTree(t, x, m, nil)
			for i, p := range l {
				v, ok := m.remove(p)
				checkRemove(t, x, p, v, ok)
				checkTree(t, x, m, paths[:20*i])
			}
		}
	}
}

// 13.9: Insert and then Remove of a pattern that was not kept leaves all as it was.
func TestThereAndBack(t *testing.T) {
	patterns := manyPatterns([]string{"", "a", "ab", ":x", "*z"}, 3)
	for seed := range 20 {
		random := rand.New(rand.NewSource(int64(seed)))
		x, m := radix.New[string](), &modelTree{}
		for range seed {
			p := patterns[random.Intn(len(patterns))]
			checkInsert(t, x, p, p, m.insert(p, p))
		}
		for _, p := range patterns {
			if m.alike(p) < 0 {
				checkInsert(t, x, p, "v", api.OK)
				checkRemove(t, x, p, "v", true)
				checkTree(t, x, m, nil)
			}
		}
		checkTree(t, x, m, []string{"/", "/a", "/ab", "/ab/a/ab", "/b/a", "//", "/a/"})
	}
}

// 13.4 to 13.7, held against the model: many changes of trees of every size.
func TestTreeModel(t *testing.T) {
	patterns := manyPatterns([]string{"", "a", "ab", "a-", "%4a", "%4b", ":x", ":y", "*z", "*x"}, 3)
	paths := slices.Collect(texts([]string{"/", "/", "a", "b", "-", "%4a"}, 3))
	paths = append(paths, manyPatterns([]string{"", "a", "ab", "a-", "%4a", "c"}, 3)...)
	for seed := range 60 {
		random := rand.New(rand.NewSource(int64(seed)))
		some := patterns
		if seed%2 == 0 { // few patterns meet their like, and their own, more often
			random.Shuffle(len(patterns), func(i, j int) { patterns[i], patterns[j] = patterns[j], patterns[i] })
			some = patterns[:2+seed]
		}
		x, m := radix.New[string](), &modelTree{}
		for step := range 150 {
			p, v := some[random.Intn(len(some))], fmt.Sprint(step)
			if random.Intn(5) < 3 {
				checkInsert(t, x, p, v, m.insert(p, v))
			} else {
				if len(m.patterns) > 0 && random.Intn(2) == 0 {
					p = m.patterns[random.Intn(len(m.patterns))]
				}
				was, ok := m.remove(p)
				checkRemove(t, x, p, was, ok)
			}
			v, ok := m.get(p)
			checkGet(t, x, p, v, ok)
			var asked []string
			for range 5 {
				asked = append(asked, paths[random.Intn(len(paths))])
			}
			checkTree(t, x, m, asked)
		}
	}
}

// 13.9, T7: Find is what going through All and asking Fits of each finds first.
func TestFindIsFirstOfAll(t *testing.T) {
	patterns := manyPatterns([]string{"", "a", "b", ":x", "*z"}, 3)
	x := radix.New[string]()
	for i, p := range patterns {
		if i%3 != 0 {
			x.Insert(p, "at "+p)
		}
	}
	for path := range texts([]string{"/", "a", "b", "c"}, 6) {
		want := ""
		for p := range x.All() {
			if _, ok := radix.Fits(p, path); ok {
				want = p
				break
			}
		}
		if want == "" {
			checkNone(t, x, path)
			continue
		}
		l, _ := radix.Fits(want, path)
		checkFound(t, x, path, want, l...)
	}
}

// 13.5: ways that part at every piece are each gone at most once.
func TestManyWays(t *testing.T) {
	x := radix.New[string]()
	n := 0
	for l := range lists([]string{"a", ":"}, 12) {
		if len(l) < 12 {
			continue
		}
		for i := range l {
			if l[i] == ":" {
				l[i] = fmt.Sprint(":x", i)
			}
		}
		p := "/" + strings.Join(l, "/")
		checkInsert(t, x, p+"/end", p, api.OK)
		n++
	}
	if x.Len() != n || n != 1<<12 {
		t.Error("Len:", x.Len(), n)
	}
	checkNone(t, x, strings.Repeat("/a", 12)+"/en")
	checkNone(t, x, strings.Repeat("/a", 12))
	some, _, l, ok := x.Find(strings.Repeat("/a", 11) + "/b/end")
	if !ok || some != strings.Repeat("/a", 11)+"/:x11" || !slices.Equal(l, []api.Param{param("x11", "b")}) {
		t.Error(some, l, ok)
	}
	for _, p := range all(x) {
		x.Remove(p)
	}
	checkNodes(t, x, 1)
}

// 13.4, R6: patterns of the greatest length, whose tree is as deep as can be.
func TestDeep(t *testing.T) {
	x := radix.New[string]()
	row := strings.Repeat("/a", 512)
	for n := range 1024 {
		checkInsert(t, x, row[:n+1], "at "+row[:n+1], api.OK)
	}
	checkNodes(t, x, 1024)
	for i, p := range all(x) {
		if p != row[:i+1] {
			t.Fatalf("the %dth has %d bytes", i, len(p))
		}
		checkFound(t, x, p, p)
	}
	checkNone(t, x, row+"/")
	for n := range 1024 {
		if n%2 == 1 {
			checkRemove(t, x, row[:n+1], "at "+row[:n+1], true)
			checkNone(t, x, row[:n+1])
		}
	}
	checkNodes(t, x, 512)
	wild := ""
	for i := range 170 {
		wild += fmt.Sprintf("/:x%d", i+100)
	}
	checkInsert(t, x, wild, "wild", api.OK)
	if v, p, l, ok := x.Find(strings.Repeat("/b", 170)); v != "wild" || p != wild || len(l) != 170 || !ok {
		t.Error(v, p, l, ok)
	}
	checkRemove(t, x, wild, "wild", true)
	checkNodes(t, x, 512)
}

// 13.6: All goes over what was kept when it was called, whatever is done meanwhile, and as often as is asked.
func TestAll(t *testing.T) {
	x := kept(t, "/b", "/a", "/:x", "/a/b", "/*r")
	want := []string{"/a", "/a/b", "/b", "/:x", "/*r"}
	seq := x.All()
	collect := func() []string {
		var l []string
		for p, v := range seq {
			if v != "at "+p {
				t.Errorf("%q with %q", p, v)
			}
			l = append(l, p)
		}
		return l
	}
	for n := range len(want) + 1 {
		i := 0
		for p := range seq {
			if i == n {
				break
			}
			if p != want[i] {
				t.Errorf("the %dth is %q", i, p)
			}
			i++
		}
		if i != n {
			t.Error("gone over:", i, n)
		}
	}
	for p := range seq {
		checkRemove(t, x, p, "at "+p, true)
		checkInsert(t, x, "/0"+p[1:], "v", api.OK)
		for q := range seq {
			if q == "/b" {
				break
			}
		}
	}
	for range 2 {
		if got := collect(); !slices.Equal(got, want) {
			t.Errorf("All() = %q; want %q", got, want)
		}
	}
	if got := all(x); !slices.Equal(got, []string{"/0*r", "/0:x", "/0a", "/0a/b", "/0b"}) {
		t.Errorf("All() = %q", got)
	}
	x.Insert("/a", "new")
	if got := collect(); !slices.Equal(got, want) {
		t.Errorf("All() = %q; want %q", got, want)
	}
}

// 13.6: two that go over one tree do not know of one another.
func TestAllTwice(t *testing.T) {
	x := kept(t, "/a", "/b", "/c")
	first, stop := iter.Pull2(x.All())
	defer stop()
	x.Remove("/b")
	second, halt := iter.Pull2(x.All())
	defer halt()
	x.Insert("/0", "v")
	for i, want := range [][2]string{{"/a", "/a"}, {"/b", "/c"}, {"/c", ""}, {"", ""}} {
		p, _, _ := first()
		q, _, _ := second()
		if p != want[0] || q != want[1] {
			t.Errorf("the %dth: %q, %q; want %q", i, p, q, want)
		}
	}
}

// 13.8.
func TestNil(t *testing.T) {
	var x *radix.Tree[string]
	checkInsert(t, x, "/a", "v", api.ErrTwice)
	checkInsert(t, x, "a", "v", api.ErrPattern)
	checkInsert(t, x, strings.Repeat("/", 1024), "v", api.ErrTwice)
	checkInsert(t, x, strings.Repeat("/", 1025), "v", api.ErrPattern)
	for _, s := range []string{"/a", "/", "", "a"} {
		checkRemove(t, x, s, "", false)
		checkGet(t, x, s, "", false)
		checkNone(t, x, s)
	}
	for p, v := range x.All() {
		t.Errorf("All() has %q with %q", p, v)
	}
	if x.Len() != 0 || x.Nodes() != 0 {
		t.Error(x.Len(), x.Nodes())
	}
}

// 13.4: what is kept may be of any type; where there is nothing it is the zero value.
func TestValuesOfAnyType(t *testing.T) {
	type row struct {
		l []int
		f func() int
	}
	rows := radix.New[row]()
	rows.Insert("/a", row{l: []int{1}, f: func() int { return 7 }})
	if v, ok := rows.Get("/a"); !ok || v.l[0] != 1 || v.f() != 7 {
		t.Error(v, ok)
	}
	if v, _, _, ok := rows.Find("/b"); ok || v.l != nil || v.f != nil {
		t.Error(v, ok)
	}
	if v, ok := rows.Remove("/a"); !ok || v.f() != 7 {
		t.Error(v, ok)
	}
	if v, ok := rows.Remove("/a"); ok || v.f != nil {
		t.Error(v, ok)
	}
	faults := radix.New[error]()
	faults.Insert("/a", nil)
	faults.Insert("/b", errors.New("b"))
	if v, ok := faults.Get("/a"); !ok || v != nil {
		t.Error(v, ok)
	}
	if v, p, _, ok := faults.Find("/b"); !ok || p != "/b" || v.Error() != "b" {
		t.Error(v, ok)
	}
	anything := radix.New[any]()
	anything.Insert("/a", []int{1})
	if e := anything.Insert("/a", 2); e != api.ErrTwice {
		t.Error(e)
	}
}
