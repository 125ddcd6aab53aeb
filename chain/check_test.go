package chain_test

import (
	"fmt"
	"math"
	"slices"
	"strings"
	"testing"

	"turnpike/api"
	"turnpike/chain"
)

// checkOf holds Check of an element against what is wanted; one that is refused does nothing in a chain.
func checkOf(t *testing.T, m api.Middle, right bool) {
	t.Helper()
	want := api.ErrMiddle
	if right {
		want = api.OK
	}
	if err := chain.Check(m); err != want {
		t.Errorf("Check(%s): %d, wanted %d", show(m), err, want)
	}
	if modelCheck(m) != right {
		t.Errorf("the model of Check(%s) says otherwise", show(m))
	}
	if !right {
		checkThrough(t, m, api.Request{Method: "PUT", Target: "/x", Body: "body", Fields: fields("Origin", "x")})
	}
}

// rightOnes is a right element of each kind, by its number.
func rightOnes() []api.Middle {
	return []api.Middle{
		{},
		{Kind: api.MiddleAdd, Name: "X", Value: "1"},
		{Kind: api.MiddleSet, Name: "A", Value: "2"},
		{Kind: api.MiddleDrop, Name: "A"},
		{Kind: api.MiddleMethods, List: list("GET", "PUT")},
		{Kind: api.MiddleBody, N: 3},
		{Kind: api.MiddleStrip, Value: "/a"},
		{Kind: api.MiddleBasic, Name: "r", List: list("u:p")},
		{Kind: api.MiddleOrigin, Value: "GET, PUT", List: list("http://x", "y"), N: 60},
		{Kind: api.MiddleCache, Value: "no-store"},
		{Kind: api.MiddleHost, List: list("h", "[::1]")},
	}
}

// 19.1: there are ten kinds.
func TestKinds(t *testing.T) {
	for i, m := range rightOnes() {
		checkOf(t, m, i > 0)
	}
	for _, kind := range []int{math.MinInt, -10, -1, 0, 11, 12, 256, 257, 1 << 32, 1<<32 + 1, math.MaxInt} {
		for _, m := range append(rightOnes(), api.Middle{}) {
			m.Kind = kind
			checkOf(t, m, false)
		}
	}
}

// 19.1: a part that a kind does not use is zero or empty; one that it uses and that may not be so is not.
func TestPartsOfOtherKinds(t *testing.T) {
	uses := []string{"", "NV", "NV", "N", "L", "n", "V", "NL", "VLn", "V", "L"}
	mayMiss := []string{"", "V", "V", "", "", "n", "", "N", "Vn", "", ""}
	for i, m := range rightOnes()[1:] {
		i++
		for _, part := range []string{"N", "V", "L", "n"} {
			full, bare := m, m
			switch part {
			case "N":
				full.Name, bare.Name = "a", ""
			case "V":
				full.Value, bare.Value = m.Value+"a", ""
			case "L":
				full.List, bare.List = append(slices.Clone(m.List), "a:b"), nil
				if i == api.MiddleMethods || i == api.MiddleHost {
					full.List = list("a")
				}
			case "n":
				full.N, bare.N = 1, 0
			}
			used := strings.Contains(uses[i], part)
			checkOf(t, full, used)
			checkOf(t, bare, !used || strings.Contains(mayMiss[i], part))
		}
		for _, n := range []int{-1, math.MinInt} {
			below := m
			below.N = n
			checkOf(t, below, false)
		}
	}
}

// R3: a list that is empty is none, whether it is there or not, and whatever lies behind its end.
func TestEmptyLists(t *testing.T) {
	for i, m := range rightOnes()[1:] {
		for _, l := range [][]string{nil, {}, list("a", "b")[:0]} {
			m.List = l
			checkOf(t, m, i+1 != api.MiddleMethods && i+1 != api.MiddleBasic && i+1 != api.MiddleOrigin && i+1 != api.MiddleHost)
		}
	}
}

// 19.1: names of fields are tokens, of any length.
func TestNames(t *testing.T) {
	check := func(name string, right bool) {
		t.Helper()
		checkOf(t, api.Middle{Kind: api.MiddleAdd, Name: name, Value: "v"}, right)
		checkOf(t, api.Middle{Kind: api.MiddleSet, Name: name}, right)
		checkOf(t, api.Middle{Kind: api.MiddleDrop, Name: name}, right)
	}
	for _, name := range []string{"X", "x-y", "!#$%&'*+-.^_`|~", "9", strings.Repeat("n", 128), strings.Repeat("n", 129), strings.Repeat("n", 9000)} {
		check(name, true)
	}
	for _, name := range []string{"", " ", "a b", " a", "a ", "a:", "a,b", "\"a\"", "(a)", "é"} {
		check(name, false)
	}
	for _, c := range everyByte() {
		check("a"+c+"b", meets(tokenAll, c))
		check(c, meets(tokenAll, c))
	}
}

// 19.1: values are those of fields, up to their limit; that of a cache is not empty.
func TestValues(t *testing.T) {
	check := func(value string, right bool) {
		t.Helper()
		checkOf(t, api.Middle{Kind: api.MiddleAdd, Name: "a", Value: value}, right)
		checkOf(t, api.Middle{Kind: api.MiddleSet, Name: "a", Value: value}, right)
		checkOf(t, api.Middle{Kind: api.MiddleCache, Value: value}, right && value != "")
	}
	for _, value := range []string{"", "a", "a b", "a\tb", "\xff", "max-age=60, public", strings.Repeat("v", 8192)} {
		check(value, true)
	}
	for _, value := range []string{" ", "\t", " a", "a ", "\ta", "a\t", "a\r\nb", "a\nb", "\x00", "\x7f", strings.Repeat("v", 8193)} {
		check(value, false)
	}
	for _, c := range everyByte() {
		in := c == "\t" || c[0] > 31 && c[0] != 127
		check("a"+c+"b", in)
		check(c, in && c != "\t" && c != " ")
	}
}

// 19.1: methods are tokens, of which none stands there twice; case counts.
func TestMethodLists(t *testing.T) {
	check := func(right bool, l ...string) {
		t.Helper()
		checkOf(t, api.Middle{Kind: api.MiddleMethods, List: l}, right)
	}
	check(true, "GET")
	check(true, "GET", "get", "Get", "HEAD", "x")
	check(false, "GET", "GET")
	check(false, "a", "b", "c", "a")
	check(false, "a", "b", "b")
	check(false, "")
	check(false, "GET", "")
	check(false, "", "GET")
	check(false, "GET, PUT")
	check(false, "GET", " PUT")
	check(false, "a/b")
	for _, c := range everyByte() {
		check(meets(tokenAll, c), "a", c+"b")
	}
	var many []string
	for i := range 100000 {
		many = append(many, fmt.Sprint("M", i))
	}
	if err := chain.Check(api.Middle{Kind: api.MiddleMethods, List: many}); err != api.OK {
		t.Error("many methods:", err)
	}
	if err := chain.Check(api.Middle{Kind: api.MiddleMethods, List: append(many, "M0")}); err != api.ErrMiddle {
		t.Error("many methods, one of them twice:", err)
	}
}

// 19.1: numbers are from 0 on.
func TestNumbers(t *testing.T) {
	for _, n := range []int{math.MinInt, math.MinInt + 1, -1 << 32, -1, 0, 1, 60, 1 << 40, math.MaxInt} {
		checkOf(t, api.Middle{Kind: api.MiddleBody, N: n}, n >= 0)
		checkOf(t, api.Middle{Kind: api.MiddleOrigin, List: list("*"), N: n}, n >= 0)
		checkOf(t, api.Middle{Kind: api.MiddleOrigin, List: list("x"), Value: "A", N: n}, n >= 0)
	}
}

// 19.1: what is taken off is a path in normal form that does not end with a slash.
func TestFronts(t *testing.T) {
	check := func(value string, right bool) {
		t.Helper()
		checkOf(t, api.Middle{Kind: api.MiddleStrip, Value: value}, right)
	}
	for _, value := range []string{"/a", "/a/b", "//a", "/a//b", "/%2F", "/a%20b", "/~", "/...", "/.a", "/a..", "/:@!$&'()*+,;=", "/" + strings.Repeat("a", 9000)} {
		check(value, true)
	}
	for _, value := range []string{"", "/", "//", "/a/", "/a//", "a", "a/b", "/.", "/..", "/a/.", "/a/..", "/./a", "/../a", "/a/./b", "/%7e", "/%41", "/%2f", "/%2E", "/%", "/%2", "/%zz", "/a?b", "/a#", "/a b", "*", "http://h/a", "/é"} {
		check(value, false)
	}
	for _, c := range everyByte() {
		check("/a"+c+"b", strings.Contains("/:@!$&'()*+,;=-._~", c) || c >= "0" && c <= "9" || c >= "A" && c <= "Z" || c >= "a" && c <= "z")
	}
	for s := range texts([]string{"/", ".", "a", "%2F", "%2f", "%2E", "%"}, 5) {
		check(s, modelNormal(s) && !strings.HasSuffix(s, "/"))
	}
}

// 19.1: a realm has bytes of fields; credentials have a name, a colon and no control bytes.
func TestCredentials(t *testing.T) {
	check := func(right bool, realm string, l ...string) {
		t.Helper()
		checkOf(t, api.Middle{Kind: api.MiddleBasic, Name: realm, List: l}, right)
	}
	for _, realm := range []string{"", " ", "\t", " a b ", "\"", "\\", "\xff", strings.Repeat("r", 9000)} {
		check(true, realm, "u:p")
	}
	for _, login := range []string{"u:", "u:p", "u::", "u:p:q", " :", "u v:w x", "\xff:\xfe", ",:\"", "u: "} {
		check(true, "r", login)
		check(true, "r", "a:b", login, "a:b", login)
	}
	for _, login := range []string{"", "u", ":", ":p", "::", ":a:b", "u:\t", "\tu:p", "u:\n", "u\x00:p", "u:\x7f"} {
		check(false, "r", login)
		check(false, "r", "a:b", login)
		check(false, "r", login, "a:b")
	}
	check(false, "r")
	for _, c := range everyByte() {
		check(c == "\t" || c[0] > 31 && c[0] != 127, "a"+c+"b", "u:p")
		check(c[0] > 31 && c[0] != 127, "r", "u"+c+":p")
		check(c[0] > 31 && c[0] != 127, "r", "u:p"+c)
		check(c[0] > 31 && c[0] != 127 && c != ":", "r", c+":")
	}
}

// 19.1: origins are * alone, or texts without blanks and commas, none of them * alone.
func TestOrigins(t *testing.T) {
	check := func(right bool, l ...string) {
		t.Helper()
		checkOf(t, api.Middle{Kind: api.MiddleOrigin, List: l}, right)
		checkOf(t, api.Middle{Kind: api.MiddleOrigin, List: l, Value: "GET", N: 1}, right)
	}
	check(true, "*")
	check(true, "http://a.b:80")
	check(true, "a", "b", "a")
	check(true, "**", "*a", "http://*", "null")
	check(true, strings.Repeat("o", 9000))
	check(false)
	check(false, "")
	check(false, "*", "*")
	check(false, "*", "a")
	check(false, "a", "*")
	check(false, "a", "")
	check(false, "a b")
	check(false, "a", "b ")
	check(false, "a,b")
	check(false, ",")
	for _, c := range everyByte() {
		in := c[0] > 32 && c[0] != 127 && c != ","
		check(in, "a"+c+"b")
		check(in && c != "*", c, "a")
		check(in, c)
	}
}

// 19.1: the methods of an origin's rules are nothing, or tokens as they are joined.
func TestOriginMethods(t *testing.T) {
	check := func(value string, right bool) {
		t.Helper()
		checkOf(t, api.Middle{Kind: api.MiddleOrigin, List: list("*"), Value: value}, right)
	}
	for _, value := range []string{"", "GET", "GET, PUT", "a, a, A", "*", strings.Repeat("M, ", 5000) + "M"} {
		check(value, true)
	}
	for _, value := range []string{" ", ",", ", ", "GET,PUT", "GET , PUT", "GET,  PUT", "GET,\tPUT", "GET, ", ", GET", " GET", "GET ", "GET, , PUT", "GET PUT", "GET;", "\"a\"", "\"", "a, \"b", "\x00"} {
		check(value, false)
	}
	for s := range texts([]string{"a", "B", ",", ", ", " ", "\"", "/"}, 5) {
		check(s, meets(tokensAll, s))
	}
}

// 19.1: hosts are authorities with small letters that tell no port, be it that a colon stands there.
func TestHosts(t *testing.T) {
	check := func(right bool, l ...string) {
		t.Helper()
		checkOf(t, api.Middle{Kind: api.MiddleHost, List: l}, right)
	}
	for _, host := range []string{"a", "a.b", "127.0.0.1", "[::1]", "[1:2:3:4:5:6:7:8]", "[::ffff:1.2.3.4]", "a%2f", "~", "a_b-c", "!$&'()*+,;=", "a:", "[::]:"} {
		check(true, host)
		check(true, "a", host, "a", host)
	}
	for _, host := range []string{"", "A", "a.B", "a:80", "a:0", "[::1]:8", ":", ":80", "[::A]", "[::1", "::1", "[1:2]", "[]", "a b", "a/", "a%2F", "a%", "a@b", "é", "a:x", "a::"} {
		check(false, host)
		check(false, "a", host)
		check(false, host, "a")
	}
	check(false)
	for _, c := range everyByte() {
		check(strings.Contains("!$&'()*+,;=-._~", c) || c >= "0" && c <= "9" || c >= "a" && c <= "z", "a"+c+"b")
	}
}

// 19.1: elements of all sorts of parts against the model.
func TestCheckByModel(t *testing.T) {
	lists := [][]string{nil, {}, {"*"}, {"a"}, {"A"}, {"a:b"}, {"a", "b"}, {"a", "a"}, {""}, {"a b"}}
	for kind := -1; kind <= 12; kind++ {
		for _, name := range []string{"", "a", "a b", "\n"} {
			for _, value := range []string{"", "a", "a, b", " a", "/a", "/a/", "\r"} {
				for _, l := range lists {
					for _, n := range []int{-1, 0, 1} {
						m := api.Middle{Kind: kind, Name: name, Value: value, List: l, N: n}
						if right := chain.Check(m) == api.OK; right != modelCheck(m) {
							t.Fatalf("Check(%s): %v", show(m), right)
						}
					}
				}
			}
		}
	}
}
