package config_test

import (
	"fmt"
	"math"
	"math/rand/v2"
	"slices"
	"strings"
	"testing"

	"turnpike/api"
	"turnpike/config"
)

// checkFault holds Parse of a text against a fault, and the model with it.
func checkFault(t *testing.T, s string, at int, err api.Errno) {
	t.Helper()
	checkParse(t, s, said{api.Config{}, at, err})
	checkModel(t, s)
}

// checkSays holds Parse of a text against a configuration, and the model with it.
func checkSays(t *testing.T, s string, c api.Config) {
	t.Helper()
	checkParse(t, s, said{c, 0, api.OK})
	checkModel(t, s)
}

// usualWith is the usual configuration with a change.
func usualWith(change func(c *api.Config)) api.Config {
	c := config.Usual()
	change(&c)
	return c
}

// 20.3: the chapter's examples.
func TestExamples(t *testing.T) {
	checkSays(t, "name \"s\"; route GET /a { text 200 text/plain hello; }", usualWith(func(c *api.Config) {
		c.Name = "s"
		c.Routes = []api.Route{{Methods: list("GET"), Pattern: "/a", Handler: api.Handler{Kind: api.HandleText, Status: 200, Media: "text/plain", Text: "hello"}}}
	}))
	checkFault(t, "in 0;", 0, api.ErrSetting)
	checkFault(t, "in 1; in 2;", 6, api.ErrRepeat)
	checkFault(t, "in", 2, api.ErrEnd)
	checkFault(t, "in x;", 3, api.ErrWord)
	checkFault(t, "bad", 0, api.ErrWord)
	checkFault(t, "name \"a", 7, api.ErrSign)
	checkFault(t, "route /a { }", 11, api.ErrWord)
	checkFault(t, "route /:a { echo; } route /:b { echo; }", 20, api.ErrNames)
	checkSays(t, "slash; # x", usualWith(func(c *api.Config) { c.Slash = true }))
	checkSays(t, "file /x.txt { body \"a\\x00\"; }", usualWith(func(c *api.Config) {
		c.Files = []api.File{{Path: "/x.txt", Media: "text/plain; charset=utf-8", Body: "a\x00", Time: -1}}
	}))
}

// 20.3: all that the language has.
func TestSample(t *testing.T) {
	want := api.Config{
		Name: "turn\tpike \"\\A~f", Date: -784111777, Slash: true,
		Limits: api.Limits{Target: 1, Head: 2, Fields: 0, Body: 7},
		In:     1048576, Out: 1, Queue: 65536, Conns: 4096, Idle: 1073741824, Linger: 0, Requests: 3, Frame: 16777216,
		Middles: []api.Middle{
			{Kind: api.MiddleAdd, Name: "X-A", Value: "1 2"},
			{Kind: api.MiddleSet, Name: "X", Value: "b"},
			{Kind: api.MiddleDrop, Name: "X"},
			{Kind: api.MiddleMethods, List: list("GET", "PUT")},
			{Kind: api.MiddleBody, N: 10},
			{Kind: api.MiddleStrip, Value: "/a"},
			{Kind: api.MiddleBasic, Name: "the realm", List: list("u:p", "v:q;#")},
			{Kind: api.MiddleOrigin, N: 60, Value: "GET, PUT", List: list("http://x", "y")},
			{Kind: api.MiddleCache, Value: "no-store"},
			{Kind: api.MiddleHost, List: list("h", "[::1]")},
		},
		Routes: []api.Route{
			{Methods: list("GET", "PUT"), Pattern: "/a/:id", Middles: []api.Middle{
				{Kind: api.MiddleAdd, Name: "X", Value: "1"},
				{Kind: api.MiddleMethods, List: list("GET")},
			}, Handler: api.Handler{Kind: api.HandleText, Status: 200, Media: "text/plain", Text: "a\r\n}"}},
			{Pattern: "/a/:id", Handler: api.Handler{Kind: api.HandleStatus, Status: 404}},
			{Methods: list("GET"), Pattern: "/b", Handler: api.Handler{Kind: api.HandleRedirect, Status: 301, Text: "/{id}"}},
			{Methods: list("GET"), Pattern: "/c", Handler: api.Handler{Kind: api.HandleEcho}},
			{Methods: list("GET"), Pattern: "/d", Handler: api.Handler{Kind: api.HandleParams}},
			{Methods: list("GET"), Pattern: "/f/*rest", Handler: api.Handler{Kind: api.HandleStatic, Name: "rest", N: 1}},
			{Methods: list("GET"), Pattern: "/g", Handler: api.Handler{Kind: api.HandleForm, N: 9}},
			{Methods: list("GET"), Pattern: "/h", Middles: []api.Middle{{Kind: api.MiddleDrop, Name: "a"}}, Handler: api.Handler{Kind: api.HandleCount, Name: "n"}},
			{Methods: list("GET"), Pattern: "/i", Handler: api.Handler{Kind: api.HandleSocket}},
		},
		Files: []api.File{
			{Path: "/x.txt", Media: "text/plain", Body: "\x00\x7f\xff\n", Time: -1},
			{Path: "/x.txt", Media: "text/html", Coding: "gzip", Language: "de", Body: "b", Time: -5},
			{Path: "/y.css", Media: "text/css", Time: -1},
		},
	}
	checkSays(t, sample, want)
}

// 20.3: what no text says is as usual.
func TestNothingSaid(t *testing.T) {
	for _, s := range []string{"", " ", "\t\r\n ", "#", "# {", "#\n", "  # a\n\r\n# b \"\\ \x00\xff", "####\n\n#"} {
		checkSays(t, s, config.Usual())
	}
}

// 20.3: a byte that begins no token; blanks are just four.
func TestSigns(t *testing.T) {
	for c := range 256 {
		b := string([]byte{byte(c)})
		for _, s := range []string{b, "slash;" + b, "in" + b, "in " + b + "1;", "in 1" + b + ";", "in 1;" + b + "out 1;", "name " + b, "# " + b, "name \"" + b + "\";", "name \"a\\" + b + "\";", "name \"\\x" + b + "0\";", "name \"\\x0" + b + "\";", "name " + b + "a;"} {
			checkModel(t, s)
		}
		if strings.Contains(" \t\r\n", b) {
			checkSays(t, b+"slash"+b+";"+b, usualWith(func(c *api.Config) { c.Slash = true }))
		} else if c < 33 || c > 126 {
			checkFault(t, b, 0, api.ErrSign)
			checkFault(t, "slash"+b, 5, api.ErrSign)
			checkFault(t, "slash; "+b+" in 0; bad", 7, api.ErrSign)
		}
	}
}

// 20.3: what a quoted text says, and where it is none any more.
func TestQuotedTexts(t *testing.T) {
	for _, x := range []struct{ quoted, says string }{
		{`""`, ""},
		{`"a"`, "a"},
		{`"a b"`, "a b"},
		{`"{};#"`, "{};#"},
		{`"\"\\"`, `"\`},
		{`"\n\r\t"`, "\n\r\t"},
		{`"\x41\x0a\xfF\xFf\x00"`, "A\n\xff\xff\x00"},
		{`"\\x41\\n"`, `\x41\n`},
		{"\"\n\r\t\x00\x7f\x80\xff\"", "\n\r\t\x00\x7f\x80\xff"},
		{`"\x5c\x22"`, `\"`},
	} {
		checkSays(t, "file /a { media a/b; body "+x.quoted+"; }", usualWith(func(c *api.Config) {
			c.Files = []api.File{{Path: "/a", Media: "a/b", Body: x.says, Time: -1}}
		}))
	}
	for _, x := range []struct {
		s  string
		at int
	}{
		{`"`, 1}, {`"a`, 2}, {`"a\`, 3}, {`"a\"`, 4}, {`"a\x`, 4}, {`"a\x4`, 5}, {`"a\x41`, 6},
		{`"\a"`, 2}, {`"\N"`, 2}, {`"\X41"`, 2}, {`"\ "`, 2}, {`"\0"`, 2}, {`"\'"`, 2}, {"\"\\\n\"", 2},
		{`"\x"`, 3}, {`"\xg0"`, 3}, {`"\x0g"`, 4}, {`"\x4"`, 4}, {`"\x 4"`, 3}, {`"\x+4"`, 3}, {`"\x\x41"`, 3},
	} {
		// Whatever could stand there, it is no token that could be refused.
		for _, front := range []string{"", "name ", "in ", "slash ", "route /a { ", "file "} {
			checkFault(t, front+x.s, len(front)+x.at, api.ErrSign)
		}
	}
}

// 20.3: words go as far as they can; other tokens may stand beside them without blanks.
func TestWords(t *testing.T) {
	named := func(name string) api.Config { return usualWith(func(c *api.Config) { c.Name = name }) }
	all := "!$%&'()*+,-./09:<=>?@AZ[\\]^_`az|~"
	checkSays(t, "name "+all+";", named(all))
	checkSays(t, "name\"a\";", named("a"))
	checkSays(t, "name a# b;\n;", named("a"))
	checkSays(t, "name#\na#\n;#", named("a"))
	checkSays(t, "name name;", named("name"))
	checkSays(t, "name -1;", named("-1"))
	checkSays(t, "name \\n;", named("\\n"))
	checkSays(t, "name 'a';", named("'a'"))
	checkFault(t, "name a\"b\";", 6, api.ErrWord)
	checkFault(t, "name \"a\"b;", 8, api.ErrWord)
	checkFault(t, "name \"a\"\"b\";", 8, api.ErrWord)
	checkFault(t, "slash{", 5, api.ErrWord)
	checkFault(t, "slashes;", 0, api.ErrWord)
	checkFault(t, "Slash;", 0, api.ErrWord)
	checkFault(t, "\"slash\";", 0, api.ErrWord)
	checkFault(t, "\"\";", 0, api.ErrWord)
	checkFault(t, "name a\xffb;", 6, api.ErrSign)
}

// 20.3: numbers are words of digits, perhaps with a - ahead.
func TestNumbers(t *testing.T) {
	for _, x := range []struct {
		word string
		n    int
	}{
		{"0", 0}, {"1", 1}, {"007", 7}, {"-1", -1}, {"-0", 0}, {"-00012", -12}, {"253402300799", 253402300799}, {"-62135596800", -62135596800},
		{strings.Repeat("0", 100) + "5", 5},
	} {
		checkSays(t, "date "+x.word+";", usualWith(func(c *api.Config) { c.Date = x.n }))
		checkSays(t, "file /a.css{time "+x.word+";}", usualWith(func(c *api.Config) {
			c.Files = []api.File{{Path: "/a.css", Media: "text/css", Time: x.n}}
		}))
	}
	checkSays(t, "middle body 9223372036854775807;", usualWith(func(c *api.Config) {
		c.Middles = []api.Middle{{Kind: api.MiddleBody, N: math.MaxInt}}
	}))
	for _, s := range []string{"-", "--1", "+1", "1-", "1a", "0x1", "1.0", "1e3", "1_0", "a", "9223372036854775808", "-9223372036854775808", "99999999999999999999", "\"1\"", "{", "}", ";", "\"\""} {
		checkFault(t, "date "+s+";", 5, api.ErrWord)
	}
	for _, s := range []string{"9223372036854775807", "-9223372036854775807", "-2", "-62135596801", "253402300800"} {
		checkFault(t, " in "+s+";", 1, api.ErrSetting)
	}
}

// 20.3: a word or a sign that cannot stand there, at its first byte; the end, at the length, blanks and notes with it.
func TestWrongWords(t *testing.T) {
	for _, x := range []struct {
		s  string
		at int
	}{
		{";", 0}, {"{", 0}, {"}", 0}, {"1", 0}, {"slash;;", 6}, {"slash; }", 7}, {"slash 1;", 6}, {"name;", 4}, {"name a b;", 7}, {"name {", 5},
		{"in 1 2;", 5}, {"in 1 }", 5}, {"echo;", 0}, {"media a;", 0}, {"middle;", 6}, {"middle echo;", 7}, {"middle \"add\" a b;", 7}, {"middle add a;", 12},
		{"middle add a b c;", 15}, {"middle drop;", 11}, {"middle drop a b;", 14}, {"middle methods;", 14}, {"middle methods a }", 17}, {"middle body a;", 12},
		{"middle body 1 1;", 14}, {"middle basic a;", 14}, {"middle basic;", 12}, {"middle origin a b c;", 14}, {"middle origin 1 a;", 17}, {"middle host {", 12}, {"middle { add a b; }", 7},
		{"route {", 6}, {"route ;", 6}, {"route /a ;", 9}, {"route /a }", 9}, {"route GET /a { ; }", 15}, {"route /a { middle echo; }", 18}, {"route /a { echo }", 16},
		{"route /a { echo; echo; }", 17}, {"route /a { echo; middle drop a; }", 17}, {"route /a { echo;; }", 16}, {"route /a { middle drop a; }", 26}, {"route /a { \"echo\"; }", 11},
		{"route /a { \"middle\" drop a; echo; }", 11}, {"route /a { echo; };", 18}, {"route /a { text 200 a; }", 21}, {"route /a { text a 200 b; }", 16}, {"route /a { text 200 a b c; }", 24}, {"route /a { status; }", 17},
		{"route /a { static 0 r; }", 20}, {"route /a { form x; }", 16}, {"route /a { count; }", 16}, {"route /a { socket 1; }", 18}, {"route /a { slash; }", 11}, {"route /a { body 1; }", 11},
		{"file {", 5}, {"file /a /b {", 8}, {"file /a ;", 8}, {"file /a { ; }", 10}, {"file /a { media; }", 15}, {"file /a { media a b; }", 18}, {"file /a { body a }", 17}, {"file /a { time a; }", 15},
		{"file /a { \"body\" a; }", 10}, {"file /a { name a; }", 10}, {"file /a { { }", 10}, {"file /a { };", 11}, {"file /a { } }", 12}, {"file /a { body a; } body a;", 25},
	} {
		checkFault(t, x.s, x.at, api.ErrWord)
		checkFault(t, "queue 1; "+x.s, 9+x.at, api.ErrWord)
	}
	for _, s := range []string{"name", "name a", "slash", "in", "in 1", "date", "middle", "middle add", "middle add a", "middle add a b", "middle methods", "middle methods a", "middle origin 1 a", "middle origin 1 a b",
		"route", "route a", "route a b", "route a {", "route a { middle", "route a { middle drop a", "route a { middle drop a;", "route a { text 1", "route a { echo", "route a { echo;", "file", "file a", "file a {", "file a { body", "file a { body b", "file a { body b;"} {
		for _, behind := range []string{"", " ", "\n\t", " # a", "# }\n "} {
			checkFault(t, s+behind, len(s+behind), api.ErrEnd)
		}
	}
}

// 20.3: each setting stands at most once, and each part of a file in it; middles, routes and files any number of times.
func TestRepeats(t *testing.T) {
	for number := 1; number <= 15; number++ {
		s := settingWords[number] + " 2;"
		if number == 15 {
			s = "slash;"
		}
		for _, between := range []string{"", " ", "middle drop a; # x\n", "file /a{}route\"/a\"{echo;}"} {
			for _, behind := range []string{"", " 2;", ";", " }", "\xff", " \"", " bad"} {
				checkFault(t, s+between+settingWords[number]+behind, len(s+between), api.ErrRepeat)
			}
		}
	}
	for _, part := range list("media", "coding", "language", "time", "body") {
		s := "file /a { " + part + " 1; "
		for _, behind := range list("", " 2; }", ";", "}", "\xff", " \"") {
			checkFault(t, s+part+behind, len(s), api.ErrRepeat)
			checkModel(t, s+"body"+behind+"media 1;"+part)
		}
	}
	checkFault(t, "file /a { body 1; body 2; } name", 18, api.ErrRepeat)
	checkSays(t, "file /a.css { body body; } file /b.css { body media; }", usualWith(func(c *api.Config) {
		c.Files = []api.File{{Path: "/a.css", Media: "text/css", Body: "body", Time: -1}, {Path: "/b.css", Media: "text/css", Body: "media", Time: -1}}
	}))
	checkSays(t, "middle drop a; middle drop a; body 1; middle body 1; route /a { middle body 1; middle body 1; echo; }", usualWith(func(c *api.Config) {
		c.Limits.Body = 1
		body := api.Middle{Kind: api.MiddleBody, N: 1}
		c.Middles = []api.Middle{{Kind: api.MiddleDrop, Name: "a"}, {Kind: api.MiddleDrop, Name: "a"}, body}
		c.Routes = []api.Route{echo("/a", body, body)}
	}))
}

// 20.3: tokens are looked at one by one, so of two faults the one ahead is told.
func TestFirstFault(t *testing.T) {
	faults := []struct {
		s   string
		at  int
		err api.Errno
	}{
		{"bad; ", 0, api.ErrWord}, {"in x; ", 3, api.ErrWord}, {"\x00 ", 0, api.ErrSign}, {"name \"\\q\"; ", 7, api.ErrSign}, {"queue 1; queue 1; ", 9, api.ErrRepeat}, {"route /a { } ", 11, api.ErrWord}, {"file /a { body 1; body 1; } ", 18, api.ErrRepeat},
	}
	for _, first := range faults {
		for _, other := range faults {
			for _, front := range []string{"", "frame -1; ", "slash; ", "route GET /b { echo; } "} {
				checkFault(t, front+first.s+other.s, len(front)+first.at, first.err)
			}
		}
	}
	// What the configuration says is looked at when all of it was read.
	checkFault(t, "in 0; bad", 6, api.ErrWord)
	checkFault(t, "in 0; slash", 11, api.ErrEnd)
	checkFault(t, "in 0; in 1;", 6, api.ErrRepeat)
	checkFault(t, "route a { echo; } \x00", 18, api.ErrSign)
}

// 20.3: what Check refuses is told at the statement that says it, in the order of Check.
func TestRefused(t *testing.T) {
	for number := 1; number <= 14; number++ {
		_, most := settingRange(number)
		s := fmt.Sprint(settingWords[number], " ", most+1, ";")
		if number == 1 {
			s = "name \"a \";"
		}
		checkFault(t, s, 0, api.ErrSetting)
		checkFault(t, "slash; # in 0;\n"+s+" middle add a b;", 15, api.ErrSetting)
		checkFault(t, "middle drop \"\"; route a { echo; } file a {}\n"+s, 44, api.ErrSetting)
	}
	for number := 3; number <= 14; number++ {
		least, _ := settingRange(number)
		checkFault(t, fmt.Sprint(" ", settingWords[number], " ", least-1, ";"), 1, api.ErrSetting)
	}
	checkFault(t, " date -62135596801;", 1, api.ErrSetting)
	checkFault(t, "out 0; in 0;", 7, api.ErrSetting)
	checkFault(t, "frame -1; conns 0; name \"\\x00\";", 19, api.ErrSetting)
	checkFault(t, "middle drop a; middle drop \"\"; middle drop \"\";", 15, api.ErrMiddle)
	checkFault(t, "route /a { middle drop \"\"; echo; } middle cache \"\";", 35, api.ErrMiddle)
	checkFault(t, "middle drop a; route /a { echo; } route /b { middle drop \"\"; middle drop a; echo; }", 34, api.ErrMiddle)
	checkFault(t, "route /a { status 1; } route /b { middle drop \"\"; echo; }", 0, api.ErrHandler)
	checkFault(t, "file /a { } route /a { middle drop \"\"; status 1; }", 12, api.ErrHandler)
	checkFault(t, "route /a { status 1; } route b { echo; }", 23, api.ErrPattern)
	checkFault(t, "route /a { echo; } route GET GET /a { echo; }", 19, api.ErrMethods)
	checkFault(t, "route \"\" /a { echo; }", 0, api.ErrMethods)
	checkFault(t, "route GET /a { echo; } route /a { echo; } route PUT GET /a { echo; }", 42, api.ErrTwice)
	checkFault(t, "file /a { } slash; file /a/ { }", 19, api.ErrFile)
	checkFault(t, "file /a { } file /a { body 1; }", 12, api.ErrAgain)
	checkFault(t, "file /a { media \"\"; }", 0, api.ErrFile)
	checkFault(t, "file /a { coding Gzip; } route /a { status 1; }", 25, api.ErrHandler)
	checkFault(t, "file /a { time -62135596801; }", 0, api.ErrFile)
}

// R6: a text has 1048576 bytes at most, whatever it says.
func TestLength(t *testing.T) {
	for _, front := range []string{"", "slash; ", "# ", "slash; #", "middle drop a;\n"} {
		s := front + strings.Repeat(" ", 1048576-len(front))
		c, _, err := config.Parse(front)
		if err != api.OK {
			t.Fatal(front, err)
		}
		checkParse(t, s, said{c, 0, api.OK})
		checkParse(t, s+" ", said{api.Config{}, 1048576, api.ErrLengthy})
		checkParse(t, s+s, said{api.Config{}, 1048576, api.ErrLengthy})
	}
	body := "file /a.css { body \"" + strings.Repeat("b", 1048576-24) + "\"; }"
	checkParse(t, body, said{usualWith(func(c *api.Config) {
		c.Files = []api.File{{Path: "/a.css", Media: "text/css", Body: strings.Repeat("b", 1048576-24), Time: -1}}
	}), 0, api.OK})
	checkParse(t, body+"\n", said{api.Config{}, 1048576, api.ErrLengthy})
	// It comes ahead of all else, as it stands in the chapter.
	for _, s := range []string{"bad", "\x00", "in 0;", "in 1; in 1;", "name \"", "in"} {
		long := strings.Repeat(" ", 1048576-len(s)) + s
		checkParse(t, long, said{api.Config{}, 1048576 - len(s) + modelParse(s).at, modelParse(s).err})
		checkParse(t, long+" ", said{api.Config{}, 1048576, api.ErrLengthy})
		checkParse(t, s+strings.Repeat(" ", 1048577-len(s)), said{api.Config{}, 1048576, api.ErrLengthy})
	}
}

// R6: as many routes and files as may be, and one more.
func TestManyStatements(t *testing.T) {
	check := func(most int, err api.Errno, statement func(i int) string) {
		t.Helper()
		var b strings.Builder
		for i := range most {
			b.WriteString(statement(i))
		}
		c, at, e := config.Parse(b.String())
		if len(c.Routes)+len(c.Files) != most || at != 0 || e != api.OK {
			t.Fatalf("%d: %d, %d, %d, %d", most, len(c.Routes), len(c.Files), at, e)
		}
		checkPrint(t, c)
		n := b.Len()
		for i := range 10 {
			b.WriteString(statement(most + i))
		}
		checkParse(t, b.String(), said{api.Config{}, n, err})
	}
	check(256, api.ErrRoutes, func(i int) string { return fmt.Sprintf("route /%d{echo;}\n", i) })
	check(4096, api.ErrFile, func(i int) string { return fmt.Sprintf("file /%d{}\n", i) })
	s := strings.Repeat("middle drop a;", 74898)
	c, _, err := config.Parse(s)
	if len(c.Middles) != 74898 || err != api.OK {
		t.Error(len(c.Middles), err)
	}
	checkParse(t, s[:14*74890]+"middle drop a b;", said{api.Config{}, 14*74890 + 14, api.ErrWord})
}

// 20.3: all short rows of tokens.
func TestRowsAgainstModel(t *testing.T) {
	pieces := list("name", "in", "slash", "middle", "route", "file", "drop", "body", "echo", "1", "\"/a\"", "{", "}", ";")
	for i := range pieces {
		pieces[i] += " "
	}
	for s := range texts(pieces, 4) {
		checkModel(t, s)
	}
	for s := range texts(list("a", "\"", "\\", "x", "#", "\n", ";", "{", "\x00", "-", "1"), 4) {
		checkModel(t, "name "+s)
	}
}

// 20.3: a text that is cut off at each byte, and changed at each.
func TestChangesAgainstModel(t *testing.T) {
	for i := range sample {
		checkModel(t, sample[:i])
		checkModel(t, sample[:i]+sample[i+1:])
		for _, c := range list(" ", ";", "{", "\"", "\\", "#", "\x00", "a") {
			checkModel(t, sample[:i]+c+sample[i+1:])
		}
		for _, c := range list("\n", "}", "\"", "0") {
			checkModel(t, sample[:i]+c+sample[i:])
		}
	}
}

// 20.3: texts of which some tokens are changed for others, left out, or laid in, from a fixed seed.
func TestTokensAgainstModel(t *testing.T) {
	r := rand.New(rand.NewPCG(20, 3))
	l, _ := modelTokens(sample)
	var all []string
	for i, token := range l {
		end := len(sample)
		if i+1 < len(l) {
			end = l[i+1].at
		}
		all = append(all, sample[token.at:end]+" ")
	}
	met := map[api.Errno]int{}
	for range 6000 {
		from := r.IntN(len(all))
		row := slices.Clone(all[from:min(len(all), from+1+r.IntN(40))])
		if r.IntN(2) == 0 {
			row = slices.Clone(all)
		}
		for range r.IntN(4) {
			i, k := r.IntN(len(row)), r.IntN(len(row))
			switch r.IntN(4) {
			case 0:
				row[i] = all[r.IntN(len(all))]
			case 1:
				row[i], row[k] = row[k], row[i]
			case 2:
				row = slices.Insert(row, i, all[r.IntN(len(all))])
			case 3:
				row[i] = ""
			}
		}
		met[checkModel(t, strings.Join(row, "")).err]++
	}
	for _, err := range []api.Errno{api.OK, api.ErrWord, api.ErrRepeat, api.ErrEnd} {
		if met[err] < 20 {
			t.Errorf("%d was met %d times", err, met[err])
		}
	}
}
