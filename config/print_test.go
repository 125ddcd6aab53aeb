package config_test

import (
	"fmt"
	"math/rand/v2"
	"strings"
	"testing"

	"turnpike/api"
	"turnpike/config"
)

// settingLines is the lines of the settings 3 to 14 as they are usual.
const settingLines = "target 8000;\nhead 16384;\nfields 100;\nbody 1048576;\nin 4096;\nout 4096;\nqueue 8;\nconns 64;\nidle 0;\nlinger 0;\nrequests 0;\nframe 65536;\n"

// checkPrinted holds Print of a configuration against a text, and the model with it.
func checkPrinted(t *testing.T, c api.Config, want string) {
	t.Helper()
	if s, err := config.Print(c); s != want || err != api.OK {
		t.Errorf("Print(%s): %q, %d; wanted %q", show(c), s, err, want)
	}
	checkPrint(t, c)
}

// 20.4: the chapter's example.
func TestPrintExample(t *testing.T) {
	c, _, _ := config.Parse("name \"s\"; route GET /a { text 200 text/plain hello; }")
	checkPrinted(t, c, "name \"s\";\n"+settingLines+"route \"GET\" \"/a\" { text 200 \"text/plain\" \"hello\"; }\n")
}

// 20.4: name, date and slash are told only if they are not as usual, and all else of the settings always.
func TestPrintSettings(t *testing.T) {
	checkPrinted(t, config.Usual(), settingLines)
	checkPrinted(t, usualWith(func(c *api.Config) { c.Name = "a b" }), "name \"a b\";\n"+settingLines)
	checkPrinted(t, usualWith(func(c *api.Config) { c.Date = 0 }), "date 0;\n"+settingLines)
	checkPrinted(t, usualWith(func(c *api.Config) { c.Date = -62135596800 }), "date -62135596800;\n"+settingLines)
	checkPrinted(t, usualWith(func(c *api.Config) { c.Slash = true }), settingLines+"slash;\n")
	checkPrinted(t, usualWith(func(c *api.Config) { c.Name, c.Date, c.Slash = "s", 1, true }), "name \"s\";\ndate 1;\n"+settingLines+"slash;\n")
	c := config.Usual()
	want := ""
	for number := 3; number <= 14; number++ {
		*settingIn(&c, number) = number
		want += fmt.Sprintf("%s %d;\n", settingWords[number], number)
	}
	checkPrinted(t, c, want)
}

// 20.4: elements, routes and files in their order, a line each.
func TestPrintLists(t *testing.T) {
	checkPrinted(t, usualWith(func(c *api.Config) {
		c.Slash = true
		c.Middles = []api.Middle{{Kind: api.MiddleOrigin, List: list("a", "b"), N: 5}, {Kind: api.MiddleBasic, Name: "r", List: list("u:p", "v:")}, {Kind: api.MiddleBody}}
		c.Routes = []api.Route{
			{Pattern: "/", Middles: []api.Middle{right, {Kind: api.MiddleMethods, List: list("GET", "PUT")}}, Handler: api.Handler{Kind: api.HandleStatic, Name: "r"}},
			{Methods: list("B", "A"), Pattern: "/", Handler: api.Handler{Kind: api.HandleSocket}},
		}
		c.Files = []api.File{
			{Path: "/b", Media: "a/b", Coding: "gzip", Language: "de", Body: "x", Time: 0},
			{Path: "/a", Media: "a/b", Time: -1},
			{Path: "/a", Media: "a/b", Language: "de", Time: -2},
		}
	}), settingLines+`slash;
middle origin 5 "" "a" "b";
middle basic "r" "u:p" "v:";
middle body 0;
route "/" { middle drop "A"; middle methods "GET" "PUT"; static "r" 0; }
route "B" "A" "/" { socket; }
file "/b" { media "a/b"; coding "gzip"; language "de"; time 0; body "x"; }
file "/a" { media "a/b"; body ""; }
file "/a" { media "a/b"; language "de"; time -2; body ""; }
`)
	for _, m := range rightMiddles() {
		checkPrint(t, usualWith(func(c *api.Config) {
			c.Middles = []api.Middle{m, m}
			c.Routes = []api.Route{echo("/a", m), echo("/b", m, m)}
		}))
	}
	for _, h := range rightHandlers() {
		checkPrint(t, usualWith(func(c *api.Config) {
			c.Routes = []api.Route{{Pattern: "/a", Handler: h}, {Methods: list("A"), Pattern: "/a", Handler: h}}
		}))
	}
}

// 20.4: each byte of a value.
func TestPrintBytes(t *testing.T) {
	body := func(s string) api.Config {
		return usualWith(func(c *api.Config) { c.Files = []api.File{{Path: "/a", Media: "a/b", Body: s, Time: -1}} })
	}
	printed := func(s string) string {
		return settingLines + "file \"/a\" { media \"a/b\"; body \"" + s + "\"; }\n"
	}
	for c := range 256 {
		b := string([]byte{byte(c)})
		want := b
		if c < 32 || c > 126 {
			want = `\x` + string([]byte{"0123456789abcdef"[c/16], "0123456789abcdef"[c%16]})
		}
		if b == `"` || b == `\` {
			want = `\` + b
		}
		checkPrinted(t, body(b), printed(want))
		checkPrinted(t, body("a"+b+b+"\n"), printed("a"+want+want+`\x0a`))
	}
	checkPrinted(t, body("é"), printed(`\xc3\xa9`))
	checkPrinted(t, body(`\x41\n`), printed(`\\x41\\n`))
}

// 20.4: what Check refuses has no text.
func TestPrintRefused(t *testing.T) {
	for _, x := range []struct {
		change func(c *api.Config)
		err    api.Errno
	}{
		{func(c *api.Config) { *c = api.Config{} }, api.ErrSetting},
		{func(c *api.Config) { c.In = 0 }, api.ErrSetting},
		{func(c *api.Config) { c.Middles = []api.Middle{{}} }, api.ErrMiddle},
		{func(c *api.Config) { c.Routes = []api.Route{echo("a")} }, api.ErrPattern},
		{func(c *api.Config) { c.Routes = []api.Route{{Pattern: "/a"}} }, api.ErrHandler},
		{func(c *api.Config) { c.Routes = []api.Route{echo("/a", wrong)} }, api.ErrMiddle},
		{func(c *api.Config) { c.Files = []api.File{{}} }, api.ErrFile},
		{func(c *api.Config) { c.Files = []api.File{file("/a"), file("/a")} }, api.ErrAgain},
	} {
		c := usualWith(x.change)
		if s, err := config.Print(c); s != "" || err != x.err {
			t.Errorf("Print(%s): %q, %d; wanted %d", show(c), s, err, x.err)
		}
	}
}

// 20.5, T8: what is printed is read back, and printed again is the same text.
func TestThereAndBack(t *testing.T) {
	r := rand.New(rand.NewPCG(20, 5))
	for range 3000 {
		s := checkPrint(t, someConfig(r))
		if s == "" {
			continue // of alike files, which chance may bring
		}
		c, _, _ := config.Parse(s)
		if again, err := config.Print(c); again != s || err != api.OK {
			t.Fatalf("%q, read and printed again: %q, %d", s, again, err)
		}
	}
	c, _, err := config.Parse(sample)
	if err != api.OK {
		t.Fatal(err)
	}
	checkPrint(t, c)
}

// 20.5: a text that is longer than may be is printed, but not read back.
func TestPrintLong(t *testing.T) {
	c := config.Usual()
	c.Files = []api.File{{Path: "/a", Media: "a/b", Time: -1}}
	s, _ := config.Print(c)
	c.Files[0].Body = strings.Repeat("b", 1048576-len(s))
	s, err := config.Print(c)
	if len(s) != 1048576 || err != api.OK {
		t.Fatal(len(s), err)
	}
	checkParse(t, s, said{c, 0, api.OK})
	c.Files[0].Body += "b"
	s, err = config.Print(c)
	if len(s) != 1048577 || err != api.OK {
		t.Fatal(len(s), err)
	}
	checkParse(t, s, said{api.Config{}, 1048576, api.ErrLengthy})
	c.Files[0].Body = strings.Repeat("\xff", 1<<23)
	if s, err = config.Print(c); len(s) < 1<<25 || err != api.OK {
		t.Fatal(len(s), err)
	}
}

// 20.5: blanks and notes between tokens say nothing.
func TestGaps(t *testing.T) {
	l, _ := modelTokens(sample)
	want, _, _ := config.Parse(sample)
	r := rand.New(rand.NewPCG(20, 6))
	gaps := list(" ", "\t", "\r", "\n", "\r\n \t", "# note { \"\\\n", "#\n", " ## in 1; #\r\n", "#\x00\xff\n")
	for range 300 {
		var b strings.Builder
		for i, token := range l {
			end := len(sample)
			if i+1 < len(l) {
				end = l[i+1].at
			}
			said := sample[token.at:end]
			if token.kind == "q" {
				said = quoted.FindString(said)
			} else if token.kind == "s" {
				said = said[:1]
			} else {
				said = word.FindString(said)
			}
			b.WriteString(gaps[r.IntN(len(gaps))] + said)
		}
		checkParse(t, b.String()+gaps[r.IntN(len(gaps))], said{want, 0, api.OK})
	}
}

// 20.5: with an element, a route or a file left out, or in another's place, a configuration is as valid as it was, if it is not the order that is wrong.
func TestLeftOut(t *testing.T) {
	r := rand.New(rand.NewPCG(20, 7))
	for range 1000 {
		c := someConfig(r)
		if _, err := config.Check(c); err != api.OK {
			continue
		}
		for i := range c.Middles {
			x := bare(c)
			x.Middles = append(x.Middles[:i], x.Middles[i+1:]...)
			checkRight(t, x)
		}
		for i := range c.Routes {
			x := bare(c)
			x.Routes[0], x.Routes[i] = x.Routes[i], x.Routes[0]
			checkRight(t, x)
			x.Routes = x.Routes[:i]
			checkRight(t, x)
		}
		for i := range c.Files {
			x := bare(c)
			x.Files[0], x.Files[i] = x.Files[i], x.Files[0]
			checkRight(t, x)
			x.Files = x.Files[:i]
			checkRight(t, x)
		}
	}
}
