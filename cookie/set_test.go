package cookie_test

import (
	"math"
	"strings"
	"testing"

	"turnpike/api"
	"turnpike/cookie"
)

const (
	someMoment = 784111777
	someDate   = "Sun, 06 Nov 1994 08:49:37 GMT"
)

// checkParseSet holds ParseSet against the model.
func checkParseSet(t *testing.T, s string, now int) {
	t.Helper()
	want, wantErr := modelParseSet(s, now)
	if got, err := cookie.ParseSet(s, now); got != want || err != wantErr {
		t.Fatalf("ParseSet(%.200q, %d): %s, %d; want %s, %d", s, now, show(got), err, show(want), wantErr)
	}
}

// checkPrintSet holds PrintSet against the model.
func checkPrintSet(t *testing.T, c api.SetCookie) {
	t.Helper()
	want, wantErr := modelPrintSet(c)
	if got, err := cookie.PrintSet(c); got != want || err != wantErr {
		t.Fatalf("PrintSet(%s): %.200q, %d; want %.200q, %d", show(c), got, err, want, wantErr)
	}
}

// checkSet reads attributes behind the cookie a=1.
func checkSet(t *testing.T, attributes string, want api.SetCookie) {
	t.Helper()
	want.Name, want.Value = "a", "1"
	if got, err := cookie.ParseSet("a=1;"+attributes, someMoment); got != want || err != api.OK {
		t.Fatalf("ParseSet of %.200q: %s, %d; want %s", attributes, show(got), err, show(want))
	}
}

// 16.2: example 2, and what the first piece may be.
func TestParseSet(t *testing.T) {
	for _, x := range []struct {
		s    string
		want api.SetCookie
		err  api.Errno
	}{
		{"a=1; Path=/x; HTTPONLY; Max-Age=-5; SameSite=lax", api.SetCookie{Name: "a", Value: "1", Path: "/x", HttpOnly: true, HasMaxAge: true, SameSite: api.SameLax}, api.OK},
		{"a", api.SetCookie{}, api.ErrCookie},
		{"a=; Domain=.A.b; path=x", api.SetCookie{Name: "a", Domain: "a.b"}, api.OK},
		{"a=1", api.SetCookie{Name: "a", Value: "1"}, api.OK},
		{" a\t=\t\"1\" ", api.SetCookie{Name: "a", Value: `"1"`}, api.OK},
		{"a=b=c;Secure", api.SetCookie{Name: "a", Value: "b=c", Secure: true}, api.OK},
		{"Secure=1", api.SetCookie{Name: "Secure", Value: "1"}, api.OK},
		{"", api.SetCookie{}, api.ErrCookie},
		{" ", api.SetCookie{}, api.ErrCookie},
		{";a=1", api.SetCookie{}, api.ErrCookie},
		{" ; Secure", api.SetCookie{}, api.ErrCookie},
		{"=1; Secure", api.SetCookie{}, api.ErrCookie},
		{"a; b=1", api.SetCookie{}, api.ErrCookie},
		{"a=1 2; Secure", api.SetCookie{}, api.ErrCookie},
		{"a=\"x;y\"", api.SetCookie{}, api.ErrCookie},
	} {
		if got, err := cookie.ParseSet(x.s, 0); got != x.want || err != x.err {
			t.Errorf("ParseSet(%q): %s, %d", x.s, show(got), err)
		}
	}
}

// 16.2: words in any case, blanks, and those that say nothing.
func TestAttributeWords(t *testing.T) {
	checkSet(t, "", api.SetCookie{})
	checkSet(t, ";; ;", api.SetCookie{})
	checkSet(t, "SECURE", api.SetCookie{Secure: true})
	checkSet(t, "\tsEcUrE\t", api.SetCookie{Secure: true})
	checkSet(t, "secure=", api.SetCookie{Secure: true})
	checkSet(t, "secure = false ; Secure=0", api.SetCookie{Secure: true})
	checkSet(t, "HttpOnly==", api.SetCookie{HttpOnly: true})
	checkSet(t, "secure httponly", api.SetCookie{})
	checkSet(t, "secure,httponly", api.SetCookie{})
	checkSet(t, "=secure; =Path=/x", api.SetCookie{})
	checkSet(t, "\u017fecure; secure\u00a0; \"secure\"; secur; securee", api.SetCookie{})
	checkSet(t, "Max_Age=1; MaxAge=1; Expire="+someDate+"; Same-Site=Lax; b=2; Priority=High", api.SetCookie{})
	checkSet(t, "Secure\n", api.SetCookie{})
	checkSet(t, "  PATH\t =\t /x\t ;DOMAIN = a ; MAX-AGE =1; SAMESITE= NONE ;EXPIRES="+someDate,
		api.SetCookie{Path: "/x", Domain: "a", MaxAge: 1, HasMaxAge: true, SameSite: api.SameAny, Expires: someMoment, HasExpires: true})
	checkSet(t, "Path=/x=y=", api.SetCookie{Path: "/x=y="})
}

// 16.2: dates in the three forms, the last one that counts, and a now that is no moment.
func TestExpires(t *testing.T) {
	dated := api.SetCookie{Expires: someMoment, HasExpires: true}
	checkSet(t, "Expires="+someDate, dated)
	checkSet(t, "Expires=Sunday, 06-Nov-94 08:49:37 GMT", dated)
	checkSet(t, "Expires=Sun Nov  6 08:49:37 1994", dated)
	checkSet(t, "Expires="+someDate+";expires=Mon, 06 Nov 1994 08:49:37 GMT;expires;expires=0;expires=", dated)
	checkSet(t, "Expires=Thu, 01 Jan 1970 00:00:00 GMT", api.SetCookie{HasExpires: true})
	checkSet(t, "Expires="+someDate+";Expires=Thu, 01 Jan 1970 00:00:01 GMT", api.SetCookie{Expires: 1, HasExpires: true})
	checkSet(t, "Expires=Mon, 01 Jan 0001 00:00:00 GMT", api.SetCookie{Expires: api.MinMoment, HasExpires: true})
	checkSet(t, "Expires=Fri, 31 Dec 9999 23:59:59 GMT", api.SetCookie{Expires: api.MaxMoment, HasExpires: true})
	checkSet(t, "Expires=Fri, 31 Dec 9999 23:59:60 GMT", api.SetCookie{})
	checkSet(t, "Expires=\""+someDate+"\"", api.SetCookie{})
	checkSet(t, "Expires=x"+someDate, api.SetCookie{})
	for _, now := range []int{math.MinInt, api.MinMoment - 1, api.MaxMoment + 1, math.MaxInt} {
		got, err := cookie.ParseSet("a=1; Expires="+someDate+"; Secure", now)
		if got != (api.SetCookie{Name: "a", Value: "1", Secure: true}) || err != api.OK {
			t.Errorf("ParseSet at %d: %s, %d", now, show(got), err)
		}
	}
	// The year of two digits hangs on now: in the year 2100 it is 2094, of which that day is no Sunday.
	if got, err := cookie.ParseSet("a=1; Expires=Sunday, 06-Nov-94 08:49:37 GMT", 4102444800); got != (api.SetCookie{Name: "a", Value: "1"}) || err != api.OK {
		t.Errorf("ParseSet in another century: %s, %d", show(got), err)
	}
}

// 16.2: ages at their limits, of any length, and what is none.
func TestMaxAge(t *testing.T) {
	for value, want := range map[string]int{
		"0": 0, "1": 1, "007": 7, "-1": 0, "-0": 0, "-34560001": 0, "34559999": 34559999, "34560000": 34560000, "34560001": 34560000,
		"9223372036854775807": 34560000, "9223372036854775808": 34560000, "-9223372036854775809": 0, "18446744073709551617": 34560000,
		strings.Repeat("9", 1000): 34560000, "-" + strings.Repeat("9", 1000): 0, strings.Repeat("0", 1000) + "12": 12,
	} {
		checkSet(t, "Max-Age="+value, api.SetCookie{MaxAge: want, HasMaxAge: true})
		checkSet(t, "Max-Age=5;max-age= "+value+" ;MAX-AGE=x", api.SetCookie{MaxAge: want, HasMaxAge: true})
	}
	for _, value := range []string{"", "-", "--1", "+1", "1-", "1.0", "1 2", "- 1", "x", "0x1", "1s", "\"1\"", strings.Repeat("9", 30) + "x", "-x", "\u0661"} {
		checkSet(t, "Max-Age="+value, api.SetCookie{})
		checkSet(t, "Max-Age=5;Max-Age="+value, api.SetCookie{MaxAge: 5, HasMaxAge: true})
	}
	checkSet(t, "Max-Age=5;Max-Age=6", api.SetCookie{MaxAge: 6, HasMaxAge: true})
	checkSet(t, "Max-Age", api.SetCookie{})
}

// 16.2: domains at their limits, with small letters and one point less; one that is none takes nothing away.
func TestDomain(t *testing.T) {
	long := strings.Repeat("a", 255)
	for value, want := range map[string]string{
		"a": "a", ".a": "a", "A.B": "a.b", "a.": "a.", "a..b": "a..b", "-": "-", "1.2.3.4": "1.2.3.4", "-.": "-.", ".-a": "-a",
		long: long, "." + long: long, strings.ToUpper(long): long,
	} {
		checkSet(t, "Domain="+value, api.SetCookie{Domain: want})
		checkSet(t, "Domain=x;domain= "+value+" ;Domain=;Domain;DOMAIN=a b", api.SetCookie{Domain: want})
	}
	for _, value := range []string{"", ".", "..", "..a", "a b", "a_b", "a:80", "[::1]", "\u212a", "a,b", "\"a\"", "*.a", long + "a", "." + long + "a", "." + long + "."} {
		checkSet(t, "Domain="+value, api.SetCookie{})
		checkSet(t, "Domain=x.y;Domain="+value, api.SetCookie{Domain: "x.y"})
	}
}

// 16.2: a path that is none takes away what one ahead of it said.
func TestPath(t *testing.T) {
	long := "/" + strings.Repeat("a", 10000)
	for _, value := range []string{"/", "/a", "/a/", "//", "/A", "/\"", "/,\\", "/~!", "/=", long} {
		checkSet(t, "Path="+value, api.SetCookie{Path: value})
		checkSet(t, "Path=/x;path="+value, api.SetCookie{Path: value})
		checkSet(t, "Path=x;Path= "+value+" ", api.SetCookie{Path: value})
	}
	for _, value := range []string{"", "a", "a/", "\"/\"", "/a b", "/\t/", "/\x7f", "/\xff", "/\x00", "/\n", ".", "?/", "*"} {
		checkSet(t, "Path="+value, api.SetCookie{})
		checkSet(t, "Path=/x;Path="+value, api.SetCookie{})
		checkSet(t, "Path=/x;Path="+value+";Path=/y", api.SetCookie{Path: "/y"})
	}
	checkSet(t, "Path=/x;Path", api.SetCookie{})
	checkSet(t, "Path=/x;Secure;Domain=/;Max-Age=/", api.SetCookie{Path: "/x", Secure: true})
}

// 16.2: each of the words, and any other one, which says SameNone.
func TestSameSite(t *testing.T) {
	for value, want := range map[string]int{
		"Lax": 1, "lax": 1, "LAX": 1, "Strict": 2, "sTRICT": 2, "None": 3, "none": 3, " NONE\t": 3,
		"": 0, "Laxx": 0, "La": 0, "\"Lax\"": 0, "1": 0, "Any": 0, "\u017ftrict": 0, "Lax,Strict": 0, "Lax Strict": 0,
	} {
		checkSet(t, "SameSite="+value, api.SetCookie{SameSite: want})
		for _, ahead := range []string{"Lax", "Strict", "None", "x"} {
			checkSet(t, "SameSite="+ahead+";samesite="+value, api.SetCookie{SameSite: want})
		}
	}
	checkSet(t, "SameSite=Strict;SameSite", api.SetCookie{})
}

// 16.2: all short lists of attributes, some of which count.
func TestAttributesAgainstModel(t *testing.T) {
	some := []string{
		"Secure", "httponly=1", "Path=/a", "path=/b ", "Path=b", "path", "Domain=A", "domain=.b", "Domain=", "Max-Age=1", "max-age=-2",
		"Max-Age=", "Expires=" + someDate, "expires=Thu, 01 Jan 1970 00:00:00 GMT", "Expires=x", "SameSite=Lax", "samesite=NONE", "SameSite=x", "b=c", "",
	}
	for l := range lists(some, 4) {
		checkParseSet(t, "a=1;"+strings.Join(l, ";"), someMoment)
	}
}

// 16.2: all short texts of pieces.
func TestParseSetAgainstModel(t *testing.T) {
	for s := range texts([]string{"a", "=", ";", " ", `"`, "path", "/", "."}, 5) {
		checkParseSet(t, s, 0)
		checkParseSet(t, "a=1;"+s, 0)
		checkParseSet(t, "a=1;domain="+s, 0)
	}
}

// 16.2: each byte in each place of an attribute.
func TestAttributeBytes(t *testing.T) {
	whole := []string{"Secure", "Path=/ab", "Domain=.ab", "Max-Age=12", "Max-Age=-2", "SameSite=Lax", "HttpOnly=x"}
	for _, b := range everyByte() {
		for _, s := range whole {
			for i := range len(s) + 1 {
				checkParseSet(t, "a=1;"+s[:i]+b+s[i:], 0)
				if i < len(s) {
					checkParseSet(t, "a=1;"+s[:i]+b+s[i+1:], 0)
				}
			}
		}
		for _, text := range []string{b, "/" + b, "/a" + b + "b", "a" + b, "a" + b + "b"} {
			checkPrintSet(t, api.SetCookie{Name: "a", Path: text})
			checkPrintSet(t, api.SetCookie{Name: "a", Domain: text})
		}
	}
}

// 16.2
func TestPrintSet(t *testing.T) {
	all := api.SetCookie{Name: "a", Value: "1", Path: "/", Domain: "a.b", MaxAge: 5, HasMaxAge: true, Expires: someMoment, HasExpires: true, Secure: true, HttpOnly: true, SameSite: api.SameAny}
	for _, x := range []struct {
		c    api.SetCookie
		want string
		err  api.Errno
	}{
		{all, "a=1; Path=/; Domain=a.b; Max-Age=5; Expires=" + someDate + "; Secure; HttpOnly; SameSite=None", api.OK},
		{api.SetCookie{Name: "a"}, "a=", api.OK},
		{api.SetCookie{Name: "a", HasMaxAge: true, HasExpires: true}, "a=; Max-Age=0; Expires=Thu, 01 Jan 1970 00:00:00 GMT", api.OK},
		{api.SetCookie{Name: "a", Value: `"x"`, SameSite: api.SameLax}, `a="x"; SameSite=Lax`, api.OK},
		{api.SetCookie{Name: "a", HttpOnly: true, SameSite: api.SameStrict}, "a=; HttpOnly; SameSite=Strict", api.OK},
		{api.SetCookie{}, "", api.ErrCookie},
		{api.SetCookie{Name: "a", Value: " "}, "", api.ErrCookie},
		{api.SetCookie{Path: "x", SameSite: 9}, "", api.ErrCookie},
		{api.SetCookie{Name: "a", Value: "\"", MaxAge: 1}, "", api.ErrCookie},
		{api.SetCookie{Name: "a", Path: "x"}, "", api.ErrAttribute},
		{api.SetCookie{Name: "a", Path: "/;"}, "", api.ErrAttribute},
		{api.SetCookie{Name: "a", Path: "/ "}, "", api.ErrAttribute},
		{api.SetCookie{Name: "a", Domain: "A"}, "", api.ErrAttribute},
		{api.SetCookie{Name: "a", Domain: ".a"}, "", api.ErrAttribute},
		{api.SetCookie{Name: "a", MaxAge: 1}, "", api.ErrAttribute},
		{api.SetCookie{Name: "a", Expires: 1}, "", api.ErrAttribute},
	} {
		if s, err := cookie.PrintSet(x.c); s != x.want || err != x.err {
			t.Errorf("PrintSet(%s): %q, %d", show(x.c), s, err)
		}
	}
}

// 16.2: each number at its limits and one past them, and the longest domain.
func TestPrintSetLimits(t *testing.T) {
	long := strings.Repeat("a", 255)
	for _, has := range []bool{false, true} {
		for _, n := range []int{math.MinInt, -1, 0, 1, api.MaxAges - 1, api.MaxAges, api.MaxAges + 1, math.MaxInt} {
			checkPrintSet(t, api.SetCookie{Name: "a", MaxAge: n, HasMaxAge: has})
		}
		for _, n := range []int{math.MinInt, api.MinMoment - 1, api.MinMoment, -1, 0, 1, api.MaxMoment, api.MaxMoment + 1, math.MaxInt} {
			checkPrintSet(t, api.SetCookie{Name: "a", Expires: n, HasExpires: has})
		}
	}
	for _, n := range []int{math.MinInt, -1, 0, 1, 2, 3, 4, math.MaxInt} {
		checkPrintSet(t, api.SetCookie{Name: "a", SameSite: n})
	}
	checkPrintSet(t, api.SetCookie{Name: "a", Domain: long})
	checkPrintSet(t, api.SetCookie{Name: "a", Domain: long + "a"})
	checkPrintSet(t, api.SetCookie{Name: "a", Path: "/" + strings.Repeat("x", 10000)})
}

// manySets goes over all ways in which some attributes, right and wrong ones, come together.
func manySets(yield func(api.SetCookie) bool) {
	for _, path := range []string{"", "/", "/x=", "x"} {
		for _, domain := range []string{"", "a.b", "-", "A"} {
			for _, age := range []int{0, 7, api.MaxAges, -1} {
				for _, expires := range []int{0, someMoment, api.MinMoment, api.MaxMoment, api.MaxMoment + 1} {
					for flags := range 64 {
						for same := range 5 {
							c := api.SetCookie{Name: "n", Value: "v", Path: path, Domain: domain, MaxAge: age, Expires: expires, SameSite: same}
							c.HasMaxAge, c.HasExpires, c.Secure, c.HttpOnly = flags&1 > 0, flags&2 > 0, flags&4 > 0, flags&8 > 0
							if flags&16 > 0 {
								c.Value = `"="`
							}
							if flags&32 > 0 {
								c.Name = ""
							}
							if !yield(c) {
								return
							}
						}
					}
				}
			}
		}
	}
}

// 16.2 and 16.8: what PrintSet says is read back, at any moment.
func TestParseSetOfPrintSet(t *testing.T) {
	read := 0
	for c := range manySets {
		checkPrintSet(t, c)
		s, err := cookie.PrintSet(c)
		if err != api.OK {
			continue
		}
		read++
		for _, now := range []int{0, someMoment, api.MinMoment, api.MaxMoment} {
			if got, err := cookie.ParseSet(s, now); got != c || err != api.OK {
				t.Fatalf("ParseSet(%q, %d): %s, %d; want %s", s, now, show(got), err, show(c))
			}
		}
	}
	if read < 1000 {
		t.Error("too few were printed:", read)
	}
}
