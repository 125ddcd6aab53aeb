package cookie_test

import (
	"fmt"
	"math"
	"slices"
	"strings"
	"testing"

	"turnpike/api"
	"turnpike/cookie"
)

// soil writes over all of a list, its spare room too.
func soil[T any](l []T, with T) {
	l = l[:cap(l)]
	for i := range l {
		l[i] = with
	}
}

// R4: what is written into an answer, its spare room too, shows in no other one, and in nothing that is kept.
func TestListsAreNew(t *testing.T) {
	for n := 1; n < 20; n++ {
		j := newJar(t, 20)
		var want []api.Cookie
		for i := range n {
			want = append(want, one(fmt.Sprint("n", i), "1"))
			set(t, j, fmt.Sprint("n", i, "=1"), "h", "/", 0, api.OK)
		}
		text, _ := cookie.Print(want)
		for name, call := range map[string]func() []api.Cookie{
			"Parse": func() []api.Cookie { l, _ := cookie.Parse(text); return l },
			"Get":   func() []api.Cookie { return j.Get("h", "/", true, 0) },
		} {
			first, second := call(), call()
			if soil(first, one("soiled", "")); !slices.Equal(second, want) || !slices.Equal(call(), want) {
				t.Fatalf("%s: lists share memory: %s", name, show(second))
			}
		}
		first, second := j.All(), j.All()
		kept := slices.Clone(second)
		if soil(first, api.SetCookie{Name: "soiled"}); !slices.Equal(second, kept) || !slices.Equal(j.All(), kept) || len(kept) != n {
			t.Fatalf("All: lists share memory: %s", show(second))
		}
	}
}

// R3 and R4: a list that is handed in is left as it is, what lies behind its end too; an empty one may be nil.
func TestArgumentsStay(t *testing.T) {
	l := []api.Cookie{one("a", "1"), one("b", "2"), one("c", " ")}
	kept := slices.Clone(l)
	checkPrint(t, l[:2], "a=1; b=2", api.OK)
	checkPrint(t, l[:0], "", api.OK)
	checkPrint(t, []api.Cookie{}, "", api.OK)
	checkPrint(t, l, "", api.ErrCookie)
	if !slices.Equal(l, kept) {
		t.Error("the list was changed:", l)
	}
}

// R5: two jars know nothing of one another, and asking changes nothing.
func TestJarsAreApart(t *testing.T) {
	a, b := newJar(t, 2), newJar(t, 2)
	set(t, a, "a=1; Secure", "h", "/", 0, api.OK)
	set(t, b, "b=2; Max-Age=5", "h", "/", 0, api.OK)
	for range 3 {
		checkGet(t, a, "h", "/", 9, "a=1")
		checkGet(t, b, "h", "/", 9, "")
		checkGet(t, b, "h", "/", 0, "b=2")
		checkAll(t, a, "a=1; Path=/; Secure|")
		checkAll(t, b, "b=2; Path=/; Max-Age=5|")
	}
	a.Sweep(9)
	checkAll(t, b, "b=2; Path=/; Max-Age=5|")
}

// R5: the same is told each time, whatever the order in which a map is gone through.
func TestSameEachTime(t *testing.T) {
	for range 30 {
		j, m := newJar(t, 25), modelJar{most: 25}
		for i := range 40 {
			c := api.SetCookie{Name: fmt.Sprint("n", i*7%30), Path: "/" + strings.Repeat("a/", i%3), HasMaxAge: i%8 == 0}
			if j.Set(c, "h", "/", true, i/10) != m.set(c, "h", "/", true, i/10) {
				t.Fatal("Set")
			}
		}
		if !slices.Equal(j.All(), m.all()) || !slices.Equal(j.Get("h", "/a/a/", true, 0), m.get("h", "/a/a/", true, 0)) {
			t.Fatalf("All: %s; want %s", show(j.All()), show(m.all()))
		}
	}
}

// R1 and R2: whatever is handed in, no call panics, and with an error there is nothing beside it.
func TestNoPanic(t *testing.T) {
	numbers := []int{math.MinInt, api.MinMoment - 1, -1, 0, 1, 4, api.MaxMoment, api.MaxMoment + 1, math.MaxInt}
	j := newJar(t, 3)
	i := 0
	for s := range texts([]string{"", "=", ";", "\"", "\xff", "a", "/", ".", "[", "]", "Expires=", "-"}, 3) {
		i++
		n, other := numbers[i%len(numbers)], numbers[i/len(numbers)%len(numbers)]
		cookie.Parse(s)
		cookie.Belongs(s, "a")
		cookie.Belongs("a", s)
		cookie.Under(s, "/")
		cookie.Under("/", s)
		cookie.DefaultPath(s)
		if c, err := cookie.ParseSet(s, n); err != api.OK && c != (api.SetCookie{}) {
			t.Fatalf("ParseSet(%q): %s, %d", s, show(c), err)
		}
		for _, c := range []api.SetCookie{{Name: s, Value: s}, {Name: "a", Path: s}, {Name: "a", Domain: s}, {Name: "a", MaxAge: n, HasMaxAge: true}, {Name: "a", Expires: n, HasExpires: true}, {Name: "a", SameSite: n}} {
			if text, err := cookie.PrintSet(c); err != api.OK && text != "" {
				t.Fatalf("PrintSet(%s): %q, %d", show(c), text, err)
			}
			j.Set(c, s, s, true, other)
			j.Set(c, s, s, false, 0)
			j.Get(s, s, false, n)
		}
		if len(j.All()) != j.Len() || j.Len() > 3 {
			t.Fatal("Len:", j.Len())
		}
		j.Sweep(n)
	}
}
