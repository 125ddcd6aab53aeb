package config_test

import (
	"fmt"
	"math/rand/v2"
	"strings"

	"turnpike/api"
	"turnpike/config"
)

// sample has all that the language has, and says it in each way.
const sample = `# a note; { "
name "tu\x72n\tpike \"\\\x41\x7Ef"; date -784111777 ;slash;
target 1; head 2; fields 0;body 007;
in 1048576; out	1; queue 65536; conns 4096; idle 1073741824; linger 0; requests 3; frame 16777216;
middle add X-A "1 2"; middle set "X" b; middle drop X;middle methods GET "PUT";
middle body 10; middle strip /a; middle basic "the realm" u:p "v:q;#"; middle origin 60 "GET, PUT" http://x y;
middle cache no-store; middle host h [::1]; # another one
route GET PUT /a/:id { middle add X 1; middle methods "GET"; text 200 text/plain "a\r\n}"; }
route /a/:id{status 404;}route"GET""/b"{redirect 301"/{id}";}
route GET /c { echo; } route GET /d { params; } route GET /f/*rest { static rest 1; }
route GET /g { form 9; } route GET /h { middle drop a; count n; } route GET /i { socket; }
file /x.txt { media text/plain; body "` + "\x00\x7f\xff\n" + `"; }
file /x.txt { body b; time -5; language de; coding gzip; media text/html; } file /y.css{}
`

func rightMiddles() []api.Middle {
	return []api.Middle{
		{Kind: api.MiddleAdd, Name: "X", Value: "1 \""},
		{Kind: api.MiddleSet, Name: "A"},
		{Kind: api.MiddleDrop, Name: "A"},
		{Kind: api.MiddleMethods, List: list("GET", "PUT")},
		{Kind: api.MiddleBody, N: 3},
		{Kind: api.MiddleStrip, Value: "/a"},
		{Kind: api.MiddleBasic, Name: "r\t\\\xff", List: list("u:p", "v:;}")},
		{Kind: api.MiddleOrigin, Value: "GET, PUT", List: list("http://x", "y"), N: 60},
		{Kind: api.MiddleCache, Value: "no-store"},
		{Kind: api.MiddleHost, List: list("h", "[::1]")},
		{Kind: api.MiddleBasic, List: list("u:")},
		{Kind: api.MiddleOrigin, List: list("*")},
		{Kind: api.MiddleBody},
	}
}

func rightHandlers() []api.Handler {
	return []api.Handler{
		{Kind: api.HandleText, Status: 200, Media: "text/plain", Text: "a\r\n\x00\"\\"},
		{Kind: api.HandleStatus, Status: 599},
		{Kind: api.HandleRedirect, Status: 302, Text: "/{id}?x"},
		{Kind: api.HandleEcho},
		{Kind: api.HandleParams},
		{Kind: api.HandleStatic, Name: "rest", N: 1},
		{Kind: api.HandleForm, N: 1000},
		{Kind: api.HandleCount, Name: "n"},
		{Kind: api.HandleSocket},
		{Kind: api.HandleStatic},
		{Kind: api.HandleText, Status: 500, Media: "x"},
	}
}

// someOf is some elements of a list, in some order, any of them more than once.
func someOf[T any](r *rand.Rand, l []T, most int) []T {
	var some []T
	for range r.IntN(most + 1) {
		some = append(some, l[r.IntN(len(l))])
	}
	return some
}

// someBytes is a text of any bytes, some of them oftener.
func someBytes(r *rand.Rand) string {
	var b strings.Builder
	for range r.IntN(20) {
		if r.IntN(2) == 0 {
			b.WriteByte("\"\\\n\r\tnxrt0{};# "[r.IntN(15)])
		} else {
			b.WriteByte(byte(r.IntN(256)))
		}
	}
	return b.String()
}

// someConfig is a configuration that is valid.
func someConfig(r *rand.Rand) api.Config {
	c := config.Usual()
	c.Name = []string{"", "s", "a \"b\\", "\xff\ty"}[r.IntN(4)]
	for number := 2; number <= 14; number++ {
		least, most := settingRange(number)
		switch r.IntN(4) {
		case 0:
			*settingIn(&c, number) = least + r.IntN(most-least+1)
		case 1:
			*settingIn(&c, number) = []int{least, most}[r.IntN(2)]
		}
	}
	c.Slash = r.IntN(2) == 0
	c.Middles = someOf(r, rightMiddles(), 4)
	patterns := list("/", "/a", "/:x", "/*r", "/a/b", "/a/:id/*rest", "/%41/~")
	for _, i := range r.Perm(len(patterns))[:r.IntN(len(patterns))] {
		x := api.Route{Pattern: patterns[i], Middles: someOf(r, rightMiddles(), 2), Handler: rightHandlers()[r.IntN(len(rightHandlers()))]}
		if x.Handler.Kind == api.HandleText {
			x.Handler.Text = someBytes(r)
		}
		for n := range r.IntN(4) {
			x.Methods = append(x.Methods, fmt.Sprint([]string{"GET", "M!", "middle"}[r.IntN(3)], n))
		}
		c.Routes = append(c.Routes, x)
	}
	for i := range r.IntN(4) {
		f := file(fmt.Sprint([]string{"/a", "/b/c.", "//"}[r.IntN(3)], i))
		f.Media = []string{"text/plain", "text/html; charset=\"a b\"", "a/b"}[r.IntN(3)]
		f.Coding = []string{"", "gzip"}[r.IntN(2)]
		f.Language = []string{"", "de", "en-US"}[r.IntN(3)]
		f.Time = []int{-1, 0, -62135596800, 253402300799}[r.IntN(4)]
		f.Body = someBytes(r)
		c.Files = append(c.Files, f)
	}
	return c
}
