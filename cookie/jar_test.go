package cookie_test

import (
	"fmt"
	"math"
	"math/rand/v2"
	"slices"
	"strings"
	"testing"

	"turnpike/api"
	"turnpike/cookie"
)

func newJar(t *testing.T, most int) *cookie.Jar {
	t.Helper()
	j, err := cookie.New(most)
	if j == nil || err != api.OK {
		t.Fatalf("New(%d): %v, %d", most, j, err)
	}
	return j
}

// set keeps a cookie that ParseSet reads; the line is secure.
func set(t *testing.T, j *cookie.Jar, s, host, path string, now int, want api.Errno) {
	t.Helper()
	c, err := cookie.ParseSet(s, 0)
	if err != api.OK {
		t.Fatalf("ParseSet(%q): %d", s, err)
	}
	if err := j.Set(c, host, path, true, now); err != want {
		t.Fatalf("Set(%q, %q, %q, %d): %d; want %d", s, host, path, now, err, want)
	}
}

// checkGet asks over a secure line; want is as Print prints it.
func checkGet(t *testing.T, j *cookie.Jar, host, path string, now int, want string) {
	t.Helper()
	if s, _ := cookie.Print(j.Get(host, path, true, now)); s != want {
		t.Fatalf("Get(%q, %q, %d): %q; want %q", host, path, now, s, want)
	}
}

// checkAll asks for all that is kept; want is as PrintSet prints it, with a | behind each.
func checkAll(t *testing.T, j *cookie.Jar, want string) {
	t.Helper()
	got := ""
	for _, c := range j.All() {
		s, _ := cookie.PrintSet(c)
		got += s + "|"
	}
	if got != want || j.Len() != strings.Count(want, "|") {
		t.Fatalf("All: %q, %d; want %q", got, j.Len(), want)
	}
}

// 16.4
func TestNew(t *testing.T) {
	for _, most := range []int{math.MinInt, -1, 0, 3001, math.MaxInt} {
		if j, err := cookie.New(most); j != nil || err != api.ErrArg {
			t.Errorf("New(%d): %v, %d", most, j, err)
		}
	}
	for _, most := range []int{1, 2, 2999, 3000} {
		checkAll(t, newJar(t, most), "")
	}
}

// 16.5, 16.6: example 4.
func TestJarExample(t *testing.T) {
	j := newJar(t, 10)
	set(t, j, "a=1; Domain=a.b", "x.a.b", "/p/q", 10, api.OK)
	checkGet(t, j, "y.a.b", "/p/r", 10, "a=1")
	checkGet(t, j, "a.b", "/", 10, "")
	set(t, j, "a=1; Domain=c", "x.a.b", "/p/q", 10, api.ErrForeign)
	if err := j.Set(api.SetCookie{Name: "a", Secure: true}, "x.a.b", "/p/q", false, 10); err != api.ErrUnsafe {
		t.Errorf("a secure one: %d", err)
	}
	checkAll(t, j, "a=1; Path=/p; Domain=a.b|")
}

// 16.5: of several errors the first one is told, and none changes anything.
func TestSetErrors(t *testing.T) {
	j := newJar(t, 5)
	set(t, j, "n=v; Secure; Path=/", "a.b", "/", 0, api.OK)
	wrong := []struct {
		err   api.Errno
		spoil func(c *api.SetCookie, host *string, secure *bool, now *int)
	}{
		{api.ErrArg, func(_ *api.SetCookie, _ *string, _ *bool, now *int) { *now = api.MaxMoment + 1 }},
		{api.ErrArg, func(_ *api.SetCookie, _ *string, _ *bool, now *int) { *now = api.MinMoment - 1 }},
		{api.ErrCookie, func(c *api.SetCookie, _ *string, _ *bool, _ *int) { c.Name = "n n" }},
		{api.ErrCookie, func(c *api.SetCookie, _ *string, _ *bool, _ *int) { c.Value = strings.Repeat("v", 4096) }},
		{api.ErrAttribute, func(c *api.SetCookie, _ *string, _ *bool, _ *int) { c.Path = "x" }},
		{api.ErrAttribute, func(c *api.SetCookie, _ *string, _ *bool, _ *int) { c.MaxAge = api.MaxAges + 1 }},
		{api.ErrAttribute, func(c *api.SetCookie, _ *string, _ *bool, _ *int) { c.SameSite = 4 }},
		{api.ErrForeign, func(c *api.SetCookie, _ *string, _ *bool, _ *int) { c.Domain = "x.a.b" }},
		{api.ErrForeign, func(c *api.SetCookie, host *string, _ *bool, _ *int) { c.Domain, *host = "a.b", "xa.b" }},
		{api.ErrForeign, func(c *api.SetCookie, host *string, _ *bool, _ *int) { c.Domain, *host = "3.4", "1.2.3.4" }},
		{api.ErrUnsafe, func(c *api.SetCookie, _ *string, _ *bool, _ *int) { c.SameSite = api.SameAny }},
		{api.ErrUnsafe, func(_ *api.SetCookie, _ *string, secure *bool, _ *int) { *secure = false }},
	}
	for i, first := range wrong {
		for _, second := range wrong[i:] {
			c, host, secure, now := api.SetCookie{Name: "n", Value: "w", Path: "/"}, "a.b", true, 0
			second.spoil(&c, &host, &secure, &now)
			first.spoil(&c, &host, &secure, &now)
			if err := j.Set(c, host, "/", secure, now); err != first.err {
				t.Errorf("Set(%s, %q, %v, %d): %d; want %d", show(c), host, secure, now, err, first.err)
			}
			checkAll(t, j, "n=v; Path=/; Secure|")
		}
	}
}

// 16.5: which cookies may be set over which line.
func TestSetUnsafe(t *testing.T) {
	for _, x := range []struct {
		secure bool
		same   int
		line   bool
		want   api.Errno
	}{
		{false, api.SameNone, false, api.OK}, {false, api.SameLax, false, api.OK}, {false, api.SameStrict, false, api.OK}, {false, api.SameAny, false, api.ErrUnsafe},
		{true, api.SameNone, false, api.ErrUnsafe}, {true, api.SameLax, false, api.ErrUnsafe}, {true, api.SameStrict, false, api.ErrUnsafe}, {true, api.SameAny, false, api.ErrUnsafe},
		{false, api.SameNone, true, api.OK}, {false, api.SameLax, true, api.OK}, {false, api.SameStrict, true, api.OK}, {false, api.SameAny, true, api.ErrUnsafe},
		{true, api.SameNone, true, api.OK}, {true, api.SameLax, true, api.OK}, {true, api.SameStrict, true, api.OK}, {true, api.SameAny, true, api.OK},
	} {
		j := newJar(t, 1)
		if err := j.Set(api.SetCookie{Name: "a", Secure: x.secure, SameSite: x.same}, "h", "/", x.line, 0); err != x.want {
			t.Errorf("%+v: %d", x, err)
		}
		if (j.Len() == 1) != (x.want == api.OK) {
			t.Errorf("%+v: %d are kept", x, j.Len())
		}
	}
}

// 16.5: a secure cookie that is not over gives way over a secure line alone; the name, the domain and the path must be its own.
func TestSetOverSecure(t *testing.T) {
	for _, x := range []struct {
		c          api.SetCookie
		host, path string
		now        int
		want       api.Errno
	}{
		{api.SetCookie{Name: "a"}, "h.x", "/p/q", 14, api.ErrUnsafe},
		{api.SetCookie{Name: "a", Path: "/p"}, "h.x", "/", 14, api.ErrUnsafe},
		{api.SetCookie{Name: "a", Domain: "h.x"}, "h.x", "/p/q", 14, api.ErrUnsafe},
		{api.SetCookie{Name: "a", Domain: "h.x"}, "y.h.x", "/p/q", 14, api.ErrUnsafe},
		{api.SetCookie{Name: "a", HasMaxAge: true}, "h.x", "/p/q", 0, api.ErrUnsafe},
		{api.SetCookie{Name: "a"}, "h.x", "/p/q", 15, api.OK},
		{api.SetCookie{Name: "A"}, "h.x", "/p/q", 14, api.OK},
		{api.SetCookie{Name: "a"}, "y.h.x", "/p/q", 14, api.OK},
		{api.SetCookie{Name: "a", Domain: "x"}, "h.x", "/p/q", 14, api.OK},
		{api.SetCookie{Name: "a"}, "h.x", "/p/q/", 14, api.OK},
		{api.SetCookie{Name: "a", Path: "/p/"}, "h.x", "/p/q", 14, api.OK},
	} {
		j := newJar(t, 5)
		set(t, j, "a=1; Secure; Max-Age=5", "h.x", "/p/q", 10, api.OK)
		if err := j.Set(x.c, x.host, x.path, false, x.now); err != x.want {
			t.Errorf("Set(%s, %q, %q, %d): %d; want %d", show(x.c), x.host, x.path, x.now, err, x.want)
		}
		if err := j.Set(x.c, x.host, x.path, true, x.now); err != api.OK {
			t.Errorf("over a secure line: %d", err)
		}
	}
	j := newJar(t, 5)
	set(t, j, "a=1; Secure", "h", "/", 0, api.OK)
	if err := j.Set(api.SetCookie{Name: "a"}, "h", "/", false, api.MaxMoment); err != api.ErrUnsafe {
		t.Error("one without an end was over:", err)
	}
}

// 16.5: how long a cookie is kept: an age ahead of a date, and neither.
func TestHowLong(t *testing.T) {
	for _, x := range []struct {
		attributes string
		now, until int
	}{
		{"Max-Age=5", 10, 15},
		{"Max-Age=0", 10, 10},
		{"Max-Age=-3", 10, 10},
		{"Max-Age=5; Expires=Thu, 01 Jan 1970 00:01:00 GMT", 10, 15},
		{"Max-Age=5; Expires=Thu, 01 Jan 1970 00:00:01 GMT", 10, 15},
		{"Max-Age=0; Expires=Thu, 01 Jan 1970 00:01:00 GMT", 10, 10},
		{"Expires=Thu, 01 Jan 1970 00:01:00 GMT", 10, 60},
		{"Expires=Thu, 01 Jan 1970 00:00:00 GMT", 10, 0},
		{"Expires=Wed, 31 Dec 1969 23:59:58 GMT", -10, -2},
		{"Max-Age=34560000", api.MaxMoment, api.MaxMoment + api.MaxAges},
		{"Max-Age=1", api.MinMoment, api.MinMoment + 1},
	} {
		j := newJar(t, 2)
		set(t, j, "a=1; "+x.attributes, "h", "/", x.now, api.OK)
		checkGet(t, j, "h", "/", x.until-1, "a=1")
		checkGet(t, j, "h", "/", math.MinInt, "a=1")
		checkGet(t, j, "h", "/", x.until, "")
		checkGet(t, j, "h", "/", x.until+1, "")
		checkGet(t, j, "h", "/", math.MaxInt, "")
		if j.Len() != 1 || j.Sweep(x.until-1) != 0 || j.Len() != 1 || j.Sweep(x.until) != 1 || j.Len() != 0 || j.Sweep(x.until) != 0 {
			t.Errorf("%q: not over at %d", x.attributes, x.until)
		}
	}
	j := newJar(t, 2)
	set(t, j, "a=1", "h", "/", 10, api.OK)
	for _, now := range []int{math.MinInt, 0, 10, math.MaxInt} {
		checkGet(t, j, "h", "/", now, "a=1")
		if j.Sweep(now) != 0 {
			t.Errorf("one without an end was over at %d", now)
		}
	}
}

// 16.4, 16.5: one with the same name, domain and path gives way, whatever else differs, and lends its place.
func TestGivesWay(t *testing.T) {
	j := newJar(t, 10)
	set(t, j, "a=1; Max-Age=5", "h", "/p/q", 0, api.OK)
	set(t, j, "b=2", "h", "/p/q", 0, api.OK)
	set(t, j, "c=3", "h", "/p/q", 0, api.OK)
	set(t, j, "b=4; Domain=h; Path=/p; HttpOnly; SameSite=Lax", "y.h", "/", 0, api.OK)
	checkAll(t, j, "a=1; Path=/p; Max-Age=5|b=4; Path=/p; Domain=h; HttpOnly; SameSite=Lax|c=3; Path=/p|")
	checkGet(t, j, "h", "/p", 0, "a=1; b=4; c=3")
	checkGet(t, j, "z.h", "/p", 0, "b=4")
	set(t, j, "b=5", "h", "/p/", 0, api.OK)
	checkGet(t, j, "z.h", "/p", 0, "")
	checkAll(t, j, "a=1; Path=/p; Max-Age=5|b=5; Path=/p|c=3; Path=/p|")
	set(t, j, "a=6", "h", "/p/q", 9, api.OK) // in the place of one that is over
	checkAll(t, j, "a=6; Path=/p|b=5; Path=/p|c=3; Path=/p|")
	set(t, j, "c=; Max-Age=0", "h", "/p/q", 9, api.OK)
	checkAll(t, j, "a=6; Path=/p|b=5; Path=/p|c=; Path=/p; Max-Age=0|")
	checkGet(t, j, "h", "/p", 9, "a=6; b=5")
	if j.Sweep(9) != 1 {
		t.Error("Sweep")
	}
	set(t, j, "c=7", "h", "/p/q", 9, api.OK)
	set(t, j, "a=8; Path=/", "h", "/p/q", 9, api.OK)
	set(t, j, "A=9", "h", "/p/q", 9, api.OK)
	set(t, j, "a=0", "H", "/p/q", 9, api.OK)
	checkAll(t, j, "a=6; Path=/p|b=5; Path=/p|c=7; Path=/p|a=8; Path=/|A=9; Path=/p|a=0; Path=/p|")
}

// 16.5: where there are too many, all that are over go, then the first ones; where one gives way, none is too many.
func TestTooMany(t *testing.T) {
	j := newJar(t, 3)
	set(t, j, "a=1", "h", "/", 0, api.OK)
	set(t, j, "b=1; Max-Age=5", "h", "/", 0, api.OK)
	set(t, j, "c=1; Max-Age=5", "h", "/", 0, api.OK)
	set(t, j, "a=2", "h", "/", 9, api.OK)
	checkAll(t, j, "a=2; Path=/|b=1; Path=/; Max-Age=5|c=1; Path=/; Max-Age=5|")
	set(t, j, "d=1", "h", "/", 4, api.OK) // none is over: the first one goes, though it was set last
	checkAll(t, j, "b=1; Path=/; Max-Age=5|c=1; Path=/; Max-Age=5|d=1; Path=/|")
	set(t, j, "e=1", "h", "/", 5, api.OK) // both that are over go
	checkAll(t, j, "d=1; Path=/|e=1; Path=/|")
	set(t, j, "f=1; Max-Age=0", "h", "/", 5, api.OK) // there is room
	checkAll(t, j, "d=1; Path=/|e=1; Path=/|f=1; Path=/; Max-Age=0|")
	set(t, j, "g=1", "h", "/", 4, api.OK) // it is not over yet
	checkAll(t, j, "e=1; Path=/|f=1; Path=/; Max-Age=0|g=1; Path=/|")
	set(t, j, "h=1", "h", "/", 5, api.OK)
	checkAll(t, j, "e=1; Path=/|g=1; Path=/|h=1; Path=/|")
	set(t, j, "i=1; Max-Age=0", "h", "/", 5, api.OK) // there is no room, and it is over itself
	checkAll(t, j, "e=1; Path=/|g=1; Path=/|h=1; Path=/|")
	set(t, j, "e=2", "h", "/", 5, api.OK)
	set(t, j, "i=1", "h", "/", 5, api.OK)
	checkAll(t, j, "g=1; Path=/|h=1; Path=/|i=1; Path=/|")
}

// 16.5, R6: as many as there may be, and one past that.
func TestMost(t *testing.T) {
	for _, most := range []int{1, 2, 3000} {
		j := newJar(t, most)
		for n := range most + 2 {
			set(t, j, fmt.Sprint("n", n, "=1"), "h", "/", 0, api.OK)
			if j.Len() != min(n+1, most) {
				t.Fatalf("%d of %d are kept", j.Len(), most)
			}
		}
		l := j.All()
		if len(l) != most || l[0].Name != "n2" || l[most-1].Name != fmt.Sprint("n", most+1) {
			t.Errorf("%d: from %q to %q", len(l), l[0].Name, l[len(l)-1].Name)
		}
		if got := j.Get("h", "/", false, 0); len(got) != most || got[0].Name != "n2" {
			t.Errorf("Get: %d", len(got))
		}
	}
}

// 16.6: to whom a cookie is sent.
func TestGetDomain(t *testing.T) {
	j := newJar(t, 10)
	set(t, j, "own=1", "a.b", "/", 0, api.OK)
	set(t, j, "told=1; Domain=a.b", "a.b", "/", 0, api.OK)
	set(t, j, "number=1; Domain=1.2.3.4", "1.2.3.4", "/", 0, api.OK)
	set(t, j, "bracket=1", "[::1]", "/", 0, api.OK)
	set(t, j, "top=1; Domain=b", "a.b", "/", 0, api.OK)
	for host, want := range map[string]string{
		"a.b": "own=1; told=1; top=1", "x.a.b": "told=1; top=1", "y.x.a.b": "told=1; top=1", "xa.b": "top=1", "b": "top=1", "A.b": "top=1",
		"1.2.3.4": "number=1", "0.1.2.3.4": "", "2.3.4": "", "[::1]": "bracket=1", "[::2]": "", "": "", "a.b.c": "", "a": "",
	} {
		checkGet(t, j, host, "/", 0, want)
	}
}

// 16.6: under which paths, the longer ones first, and of equally long ones those that were kept first.
func TestGetPath(t *testing.T) {
	j := newJar(t, 10)
	set(t, j, "root=1; Path=/", "h", "/x/y", 0, api.OK)
	set(t, j, "a=1; Path=/a", "h", "/", 0, api.OK)
	set(t, j, "ab=1", "h", "/a/b/c", 0, api.OK)
	set(t, j, "slash=1; Path=/a/", "h", "/", 0, api.OK)
	set(t, j, "also=1; Path=/a", "h", "/", 0, api.OK)
	set(t, j, "none=1", "h", "", 0, api.OK)
	set(t, j, "odd=1", "h", "/a;b /c", 0, api.OK)
	for path, want := range map[string]string{
		"/a/b/c": "ab=1; slash=1; a=1; also=1; root=1; none=1", "/a/b": "ab=1; slash=1; a=1; also=1; root=1; none=1",
		"/a/bc": "slash=1; a=1; also=1; root=1; none=1", "/a/": "slash=1; a=1; also=1; root=1; none=1", "/a": "a=1; also=1; root=1; none=1",
		"/ab": "root=1; none=1", "/": "root=1; none=1", "/A": "root=1; none=1", "": "", "a": "", "/a;b /d": "odd=1; root=1; none=1",
	} {
		checkGet(t, j, "h", path, 0, want)
	}
	set(t, j, "a=2; Path=/a", "h", "/", 0, api.OK) // it keeps its place ahead of also
	checkGet(t, j, "h", "/a", 0, "a=2; also=1; root=1; none=1")
	if l := j.All(); l[6].Path != "/a;b " || l[5].Path != "/" || l[2].Path != "/a/b" {
		t.Errorf("All: %s", show(l))
	}
}

// 16.6: a secure cookie goes over a secure line alone.
func TestGetSecure(t *testing.T) {
	j := newJar(t, 10)
	set(t, j, "a=1; Secure", "h", "/", 0, api.OK)
	set(t, j, "b=1; HttpOnly; SameSite=Strict", "h", "/", 0, api.OK)
	checkGet(t, j, "h", "/", 0, "a=1; b=1")
	if l := j.Get("h", "/", false, 0); !slices.Equal(l, []api.Cookie{one("b", "1")}) {
		t.Errorf("Get: %s", show(l))
	}
}

// 16.6: all as it was set, with its path, and its domain where that was told.
func TestAll(t *testing.T) {
	j := newJar(t, 2000)
	var want []api.SetCookie
	n := 0
	for c := range manySets {
		if n++; n%37 != 3 || j.Set(c, "x.a.b", "/p/q", true, 0) != api.OK {
			continue
		}
		if c.Path == "" {
			c.Path = "/p"
		}
		i := slices.IndexFunc(want, func(o api.SetCookie) bool { return o.Path == c.Path && o.Domain == c.Domain })
		if i < 0 {
			want = append(want, c)
		} else {
			want[i] = c
		}
	}
	if got := j.All(); !slices.Equal(got, want) || j.Len() != len(want) || len(want) < 4 {
		t.Errorf("All: %s; want %s", show(got), show(want))
	}
}

// 16.6: Sweep takes those that are over and no other, and leaves the order.
func TestSweep(t *testing.T) {
	j := newJar(t, 10)
	for i, age := range []string{"; Max-Age=5", "", "; Max-Age=3", "; Max-Age=9", "; Max-Age=5", ""} {
		set(t, j, fmt.Sprint("n", i, "=1", age), "h", "/", 0, api.OK)
	}
	for now, want := range []int{0, 0, 0, 1, 0, 2, 0, 0, 0, 1, 0} {
		if got := j.Sweep(now); got != want {
			t.Errorf("Sweep(%d): %d; want %d", now, got, want)
		}
	}
	checkAll(t, j, "n1=1; Path=/|n5=1; Path=/|")
}

// 16.7: a nil jar; and one that New did not make, which is like it.
func TestNilJar(t *testing.T) {
	for _, j := range []*cookie.Jar{nil, {}} {
		for _, c := range []api.SetCookie{{Name: "a"}, {}, {Name: "a", Path: "x"}} {
			if err := j.Set(c, "h", "/", true, 0); err != api.ErrArg {
				t.Errorf("Set: %d", err)
			}
		}
		if len(j.Get("h", "/", true, 0)) != 0 || len(j.All()) != 0 || j.Sweep(0) != 0 || j.Len() != 0 {
			t.Error("something is kept")
		}
	}
}

// act is a thing that is done to a jar.
type act struct {
	c          api.SetCookie
	host, path string
	secure     bool
	now        int
	sweep      bool
}

// checkActs does things to a jar and to the model of one, and holds them against each other behind each.
func checkActs(t *testing.T, most int, acts []act) {
	t.Helper()
	j, m := newJar(t, most), modelJar{most: most}
	for i, a := range acts {
		if a.sweep {
			if got, want := j.Sweep(a.now), m.sweep(a.now); got != want {
				t.Fatalf("%s: Sweep: %d; want %d", show(acts[:i+1]), got, want)
			}
		} else if got, want := j.Set(a.c, a.host, a.path, a.secure, a.now), m.set(a.c, a.host, a.path, a.secure, a.now); got != want {
			t.Fatalf("%s: Set: %d; want %d", show(acts[:i+1]), got, want)
		}
		if got, want := j.All(), m.all(); !slices.Equal(got, want) || j.Len() != len(want) {
			t.Fatalf("%s: All: %s, %d; want %s", show(acts[:i+1]), show(got), j.Len(), show(want))
		}
	}
	for _, host := range []string{"a", "x.a", "1.2", "2"} {
		for _, path := range []string{"/", "/p", "/p/q"} {
			for now := range 4 {
				for _, secure := range []bool{false, true} {
					got, want := j.Get(host, path, secure, now), m.get(host, path, secure, now)
					if !slices.Equal(got, want) {
						t.Fatalf("%s: Get(%q, %q, %v, %d): %s; want %s", show(acts), host, path, secure, now, show(got), show(want))
					}
				}
			}
		}
	}
}

// 16.5, 16.6: all short rows of some acts, in jars that are soon full.
func TestJarAgainstModel(t *testing.T) {
	some := []act{
		{c: api.SetCookie{Name: "n", Value: "1"}, host: "a", path: "/p/q"},
		{c: api.SetCookie{Name: "n", Value: "2", Domain: "a", Path: "/p"}, host: "x.a", path: "/", now: 1},
		{c: api.SetCookie{Name: "n", Value: "3", Secure: true}, host: "a", path: "/p/", secure: true, now: 1},
		{c: api.SetCookie{Name: "m", Value: "4", HasMaxAge: true, MaxAge: 1}, host: "a", path: "/", now: 1},
		{c: api.SetCookie{Name: "n", Value: "5", HasExpires: true, Expires: 2, Secure: true}, host: "a", path: "/p/q", secure: true, now: 2},
		{c: api.SetCookie{Name: "o", Value: "6", Path: "/"}, host: "a", path: "/", now: 2},
		{now: 2, sweep: true},
	}
	for l := range lists(some, 5) {
		for most := 1; most < 4; most++ {
			checkActs(t, most, l)
		}
	}
}

// 16.5, 16.6: long rows of acts from fixed seeds.
func TestJarAgainstModelLong(t *testing.T) {
	for seed := range uint64(1500) {
		r := rand.New(rand.NewPCG(seed, 16))
		pick := func(l ...string) string { return l[r.IntN(len(l))] }
		var acts []act
		for n := range 60 {
			c := api.SetCookie{
				Name: pick("m", "n", "o"), Value: fmt.Sprint(n), Path: pick("", "", "/", "/p", "/p/", "/p/q", "x"),
				Domain: pick("", "", "a", "x.a", "2", "1.2"), Secure: r.IntN(3) == 0, HttpOnly: r.IntN(2) == 0, SameSite: r.IntN(4),
			}
			if r.IntN(2) == 0 {
				c.MaxAge, c.HasMaxAge = r.IntN(3), true
			}
			if r.IntN(3) == 0 {
				c.Expires, c.HasExpires = r.IntN(4), true
			}
			if r.IntN(40) == 0 {
				c.Value = " "
			}
			acts = append(acts, act{c, pick("a", "x.a", "1.2", "2"), pick("/", "/p", "/p/", "/p/q", ""), r.IntN(3) > 0, r.IntN(4), r.IntN(12) == 0})
		}
		checkActs(t, 1+r.IntN(8), acts)
	}
}

// 16.8: what is answered was set for the host and the path; without a Domain for its own host alone; no two are one.
func TestWhatComesBack(t *testing.T) {
	hosts := []string{"a.b", "x.a.b", "y.x.a.b", "b", "1.2", "[::1]"}
	paths := []string{"/", "/p", "/p/", "/p/q", "/pq"}
	j := newJar(t, 3000)
	was := map[string]api.SetCookie{} // by its value, with the host that set it in Name
	for _, host := range hosts {
		for _, domain := range append([]string{""}, hosts[:5]...) {
			for _, path := range append([]string{""}, paths...) {
				for _, at := range paths {
					c := api.SetCookie{Name: "n", Value: fmt.Sprint(len(was)), Domain: domain, Path: path}
					if j.Set(c, host, at, true, 0) != api.OK {
						continue
					}
					c.Name = host
					if c.Path == "" {
						c.Path = cookie.DefaultPath(at)
					}
					was[c.Value] = c
				}
			}
		}
	}
	for _, host := range append(hosts, "c", "0.1.2") {
		for _, path := range append(paths, "/p/q/r", "/q") {
			met := map[string]bool{}
			for _, got := range j.Get(host, path, false, 0) {
				c := was[got.Value]
				key := c.Domain + " " + c.Path
				if c.Domain == "" {
					key = c.Name + " " + c.Path
				}
				if c.Domain == "" && c.Name != host || c.Domain != "" && !cookie.Belongs(host, c.Domain) || !cookie.Under(path, c.Path) || met[key] {
					t.Fatalf("Get(%q, %q): %s", host, path, show(c))
				}
				met[key] = true
			}
		}
	}
}
