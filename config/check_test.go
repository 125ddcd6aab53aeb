package config_test

import (
	"fmt"
	"math"
	"strings"
	"testing"

	"turnpike/api"
	"turnpike/config"
)

// checkOf holds Check of a configuration against what is wanted, and Print with it.
func checkOf(t *testing.T, c api.Config, spot api.Spot, err api.Errno) {
	t.Helper()
	if x, e := config.Check(c); x != spot || e != err {
		t.Errorf("Check(%s): %v, %d; wanted %v, %d", show(c), x, e, spot, err)
	}
	if x, e := modelCheck(c); x != spot || e != err {
		t.Errorf("the model of Check(%s) says otherwise: %v, %d", show(c), x, e)
	}
	if s, e := config.Print(c); e != err || (s == "") != (err != api.OK) {
		t.Errorf("Print(%s): %.100q, %d; wanted %d", show(c), s, e, err)
	}
}

func checkRight(t *testing.T, c api.Config) {
	t.Helper()
	checkOf(t, c, api.Spot{}, api.OK)
}

func settingSpot(number int) api.Spot { return api.Spot{Kind: api.SpotSetting, Number: number} }

func middleSpot(number int) api.Spot { return api.Spot{Kind: api.SpotMiddle, Number: number} }

func routeSpot(number int) api.Spot { return api.Spot{Kind: api.SpotRoute, Number: number} }

func fileSpot(number int) api.Spot { return api.Spot{Kind: api.SpotFile, Number: number} }

// 20.1
func TestUsual(t *testing.T) {
	want := api.Config{Date: -1, Limits: api.Limits{Target: 8000, Head: 16384, Fields: 100, Body: 1048576}, In: 4096, Out: 4096, Queue: 8, Conns: 64, Frame: 65536}
	if c := config.Usual(); !same(c, want) {
		t.Error("Usual:", show(c))
	}
	checkRight(t, config.Usual())
}

// 20.2: each setting that is a number has its least and its most.
func TestSettings(t *testing.T) {
	for number := 2; number <= 14; number++ {
		least, most := settingRange(number)
		for _, n := range []int{least, least + 1, (least + most) / 2, most - 1, most} {
			c := config.Usual()
			*settingIn(&c, number) = n
			checkRight(t, c)
		}
		for _, n := range []int{math.MinInt, least - 1<<32, least - 2, least - 1, most + 1, most + 2, most + 1<<32, math.MaxInt} {
			c := config.Usual()
			*settingIn(&c, number) = n
			checkOf(t, c, settingSpot(number), api.ErrSetting)
		}
	}
	c := config.Usual()
	c.Slash = true
	checkRight(t, c)
}

// 20.2: no date is -1, and a moment is one ahead of 1970, too.
func TestDates(t *testing.T) {
	for _, date := range []int{-1, 0, 1, -2, 784111777, -62135596800, 253402300799} {
		c := config.Usual()
		c.Date = date
		checkRight(t, c)
	}
	for _, date := range []int{-62135596801, 253402300800} {
		c := config.Usual()
		c.Date = date
		checkOf(t, c, settingSpot(2), api.ErrSetting)
	}
}

// 20.2: a name is bytes of fields without blanks at the ends, 128 at most.
func TestNames(t *testing.T) {
	check := func(name string, right bool) {
		t.Helper()
		c := config.Usual()
		c.Name = name
		if right {
			checkRight(t, c)
		} else {
			checkOf(t, c, settingSpot(1), api.ErrSetting)
		}
	}
	for _, name := range []string{"", "a", "turnpike/1.0 (x; y)", "a\tb", "a  b", "\"", "\\", "é\xff", strings.Repeat("n", 128), "a" + strings.Repeat(" ", 126) + "b"} {
		check(name, true)
	}
	for _, name := range []string{" ", "\t", " a", "a ", "\ta", "a\t", "a\nb", "a\r\nb", "\x00", "\x7f", strings.Repeat("n", 129), "a" + strings.Repeat(" ", 127) + "b", strings.Repeat("n", 1<<20)} {
		check(name, false)
	}
	for c := range 256 {
		in := c == '\t' || c > 31 && c != 127
		check("a"+string([]byte{byte(c)})+"b", in)
		check(string([]byte{byte(c)}), in && c != '\t' && c != ' ')
	}
}

// wrongSettings is the usual settings with those wrong whose bit is set.
func wrongSettings(bits int) api.Config {
	c := config.Usual()
	for number := 1; number <= 14; number++ {
		if bits>>number&1 == 0 {
			continue
		}
		if number == 1 {
			c.Name = " "
			continue
		}
		_, most := settingRange(number)
		*settingIn(&c, number) = most + 1
	}
	return c
}

// 20.2: of the settings that may not be the first one is told, whichever others there are.
func TestFirstSetting(t *testing.T) {
	for bits := 2; bits < 1<<15; bits += 2 {
		first := 1
		for bits>>first&1 == 0 {
			first++
		}
		c := wrongSettings(bits)
		if spot, err := config.Check(c); spot != settingSpot(first) || err != api.ErrSetting {
			t.Fatalf("Check(%s): %v, %d", show(c), spot, err)
		}
	}
}

// echo is a route for all at a pattern.
func echo(pattern string, middles ...api.Middle) api.Route {
	return api.Route{Pattern: pattern, Middles: middles, Handler: api.Handler{Kind: api.HandleEcho}}
}

func file(path string) api.File { return api.File{Path: path, Media: "text/plain", Time: -1} }

var (
	right = api.Middle{Kind: api.MiddleDrop, Name: "A"}
	wrong = api.Middle{Kind: api.MiddleDrop, Name: "A B"}
)

// 20.2: the first element that chain refuses.
func TestMiddles(t *testing.T) {
	c := config.Usual()
	for i, m := range rightMiddles() {
		c.Middles = append(c.Middles, m)
		checkRight(t, c)
		bad := c
		bad.Middles = append(bad.Middles[:i+1:i+1], api.Middle{Kind: m.Kind, Name: " ", Value: " ", N: -1}, right, wrong)
		checkOf(t, bad, middleSpot(i+1), api.ErrMiddle)
	}
	for _, m := range []api.Middle{{}, wrong, {Kind: 11}, {Kind: api.MiddleMethods}} {
		c := config.Usual()
		c.Middles = []api.Middle{m}
		checkOf(t, c, middleSpot(0), api.ErrMiddle)
	}
}

// 20.2: what route.New says of the routes.
func TestRoutes(t *testing.T) {
	get := func(pattern string) api.Route {
		x := echo(pattern)
		x.Methods = list("GET")
		return x
	}
	for _, l := range [][]api.Route{{}, {echo("/")}, {echo("/a"), get("/a")}, {get("/:x"), get("/*x")}, {echo("/a/:b/*c")}} {
		c := config.Usual()
		c.Routes = l
		checkRight(t, c)
		c.Slash = true
		checkRight(t, c)
	}
	twice := get("/z")
	twice.Methods = list("PUT", "PUT")
	for _, x := range []struct {
		l   []api.Route
		at  int
		err api.Errno
	}{
		{[]api.Route{echo("a")}, 0, api.ErrPattern},
		{[]api.Route{echo("/a"), echo("")}, 1, api.ErrPattern},
		{[]api.Route{echo("/a"), twice, echo("")}, 1, api.ErrMethods},
		{[]api.Route{echo("/:a"), echo("/:b")}, 1, api.ErrNames},
		{[]api.Route{get("/:a"), get("/b"), get("/:a")}, 2, api.ErrTwice},
		{[]api.Route{echo("/a"), echo("/a")}, 1, api.ErrTwice},
	} {
		c := config.Usual()
		c.Routes = x.l
		checkOf(t, c, routeSpot(x.at), x.err)
	}
}

// R6: there are 256 routes at most, and 4096 files; of elements any number.
func TestCounts(t *testing.T) {
	c := config.Usual()
	for i := range 256 {
		c.Routes = append(c.Routes, echo(fmt.Sprint("/", i)))
	}
	checkRight(t, c)
	c.Routes = append(c.Routes, echo("/more"))
	checkOf(t, c, routeSpot(256), api.ErrRoutes)
	c.Routes = append(c.Routes, echo("/more"), echo(""))
	c.Routes[3] = api.Route{}
	checkOf(t, c, routeSpot(256), api.ErrRoutes)

	c = config.Usual()
	for i := range 4096 {
		c.Files = append(c.Files, file(fmt.Sprint("/", i)))
	}
	checkRight(t, c)
	c.Files = append(c.Files, file("/more"))
	checkOf(t, c, fileSpot(4096), api.ErrFile)
	c.Files[7].Path = "/6"
	checkOf(t, c, fileSpot(7), api.ErrAgain)

	c = config.Usual()
	for range 100000 {
		c.Middles = append(c.Middles, right)
	}
	checkRight(t, c)
	c.Middles = append(c.Middles, wrong)
	checkOf(t, c, middleSpot(100000), api.ErrMiddle)
}

// 20.2: the first route whose handler or whose chain is refused, the handler ahead of the chain.
func TestHandlers(t *testing.T) {
	silent := api.Route{Pattern: "/c", Middles: []api.Middle{wrong}}
	for _, x := range []struct {
		l   []api.Route
		at  int
		err api.Errno
	}{
		{[]api.Route{echo("/a"), {Pattern: "/b"}}, 1, api.ErrHandler},
		{[]api.Route{echo("/a", right, wrong), {Pattern: "/b"}}, 0, api.ErrMiddle},
		{[]api.Route{{Pattern: "/b"}, echo("/a", wrong)}, 0, api.ErrHandler},
		{[]api.Route{silent}, 0, api.ErrHandler},
		{[]api.Route{echo("/a", right), echo("/b", wrong), silent}, 1, api.ErrMiddle},
		{[]api.Route{echo("/a", wrong), silent, echo("/a")}, 2, api.ErrTwice},
		{[]api.Route{silent, echo("a")}, 1, api.ErrPattern},
	} {
		c := config.Usual()
		c.Routes = x.l
		checkOf(t, c, routeSpot(x.at), x.err)
	}
	for i, h := range rightHandlers() {
		c := config.Usual()
		c.Routes = []api.Route{echo("/a", rightMiddles()...), {Methods: list("GET"), Pattern: "/a", Handler: h}}
		checkRight(t, c)
		c.Routes[1].Handler.Kind = 9 + i
		c.Routes[1].Handler.Status = -1
		checkOf(t, c, routeSpot(1), api.ErrHandler)
	}
}

// 20.2: what shelf.New says of the files.
func TestFiles(t *testing.T) {
	german := file("/a")
	german.Language = "de"
	untimely := file("/b")
	untimely.Time = 253402300800
	for _, x := range []struct {
		l   []api.File
		at  int
		err api.Errno
	}{
		{[]api.File{}, 0, 0},
		{[]api.File{file("/a"), german, file("/b")}, 0, 0},
		{[]api.File{file("/a"), {}}, 1, api.ErrFile},
		{[]api.File{file("/a"), file("/b/")}, 1, api.ErrFile},
		{[]api.File{untimely, file("")}, 0, api.ErrFile},
		{[]api.File{file("/a"), german, german, {}}, 2, api.ErrAgain},
	} {
		c := config.Usual()
		c.Files = x.l
		spot := api.Spot{}
		if x.err != api.OK {
			spot = fileSpot(x.at)
		}
		checkOf(t, c, spot, x.err)
	}
}

// 20.2: settings come ahead of middles, these of routes, patterns of handlers, and these of files.
func TestFirstOfAll(t *testing.T) {
	for bits := range 1 << 5 {
		c := config.Usual()
		c.Middles = []api.Middle{right}
		c.Routes = []api.Route{echo("/a"), echo("/b")}
		c.Files = []api.File{file("/a"), file("/b"), file("/c")}
		spot, err := api.Spot{}, api.OK
		if bits&16 != 0 {
			c.Files[2].Path, spot, err = "/a", fileSpot(2), api.ErrAgain
		}
		if bits&8 != 0 {
			c.Routes[0].Middles, spot, err = []api.Middle{wrong}, routeSpot(0), api.ErrMiddle
		}
		if bits&4 != 0 {
			c.Routes[1].Pattern, spot, err = "/a", routeSpot(1), api.ErrTwice
		}
		if bits&2 != 0 {
			c.Middles, spot, err = append(c.Middles, wrong), middleSpot(1), api.ErrMiddle
		}
		if bits&1 != 0 {
			c.Frame, spot, err = -1, settingSpot(14), api.ErrSetting
		}
		checkOf(t, c, spot, err)
	}
}
