package app_test

import (
	"fmt"
	"reflect"
	"slices"
	"strings"
	"testing"

	"turnpike/api"
	"turnpike/app"
	"turnpike/chain"
	"turnpike/config"
	"turnpike/field"
	"turnpike/handle"
	"turnpike/message"
	"turnpike/route"
	"turnpike/shelf"
	"turnpike/span"
	"turnpike/stamp"
	"turnpike/tag"
	"turnpike/target"
)

// show is what is told of something that is not as it must be; not all, if it is long.
func show(x any) string { return fmt.Sprintf("%.1000q", fmt.Sprintf("%+v", x)) }

// wire is a text as it goes over the line: | stands for a line end, and ~ for the byte 10.
func wire(s string) string { return strings.NewReplacer("|", "\r\n", "~", "\n").Replace(s) }

func fields(l ...string) []api.Field {
	var all []api.Field
	for i := 0; i < len(l); i += 2 {
		all = append(all, api.Field{Name: l[i], Value: l[i+1]})
	}
	return all
}

// ask is the request that a text says, with | for line ends, right or not.
func ask(text string) api.Request {
	front, body, _ := strings.Cut(text, "||")
	line, rest, has := strings.Cut(front, "|")
	word := strings.Split(line, " ")
	r := api.Request{Method: word[0], Target: word[1], Body: body}
	fmt.Sscanf(word[2], "HTTP/%d.%d", &r.Major, &r.Minor)
	if !has {
		return r
	}
	for f := range strings.SplitSeq(rest, "|") {
		name, value, _ := strings.Cut(f, ": ")
		r.Fields = append(r.Fields, api.Field{Name: name, Value: value})
	}
	return r
}

// configured is the configuration that a text says.
func configured(t *testing.T, text string) api.Config {
	t.Helper()
	c, at, err := config.Parse(text)
	if err != api.OK {
		t.Fatalf("no configuration, %d at %d: %.200q", err, at, text)
	}
	return c
}

// madeOf is the app of a configuration.
func madeOf(t *testing.T, c api.Config) *app.App {
	t.Helper()
	a, err := app.New(c)
	if err != api.OK || a == nil {
		t.Fatalf("New(%s): %d", show(c), err)
	}
	return a
}

// same is whether two answers are one, where an empty list is none.
func same(a, b api.Answer) bool {
	return slices.Equal(a.Response.Fields, b.Response.Fields) && reflect.DeepEqual(fieldless(a), fieldless(b))
}

func fieldless(x api.Answer) api.Answer {
	x.Response.Fields = nil
	return x
}

// bare is a configuration in lists of its own that has no empty lists.
func bare(c api.Config) api.Config {
	c.Middles = bareMiddles(c.Middles)
	c.Routes = append([]api.Route(nil), c.Routes...)
	for i := range c.Routes {
		c.Routes[i].Methods = append([]string(nil), c.Routes[i].Methods...)
		c.Routes[i].Middles = bareMiddles(c.Routes[i].Middles)
	}
	c.Files = append([]api.File(nil), c.Files...)
	return c
}

func bareMiddles(l []api.Middle) []api.Middle {
	l = append([]api.Middle(nil), l...)
	for i := range l {
		l[i].List = append([]string(nil), l[i].List...)
	}
	return l
}

// checkModel holds Answer, Bytes and Go of an app against the model.
func checkModel(t *testing.T, a *app.App, c api.Config, r api.Request, n int) {
	t.Helper()
	want, told := modelBytes(c, r, n)
	if x := a.Answer(r, n); !same(x, told) {
		t.Fatalf("of %s\nAnswer(%s, %d): %s; wanted %s", show(c), show(r), n, show(x), show(told))
	}
	if s, x := a.Bytes(r, n); s != want || !same(x, told) {
		t.Fatalf("of %s\nBytes(%s, %d): %q, %s; wanted %q, %s", show(c), show(r), n, s, show(x), want, show(told))
	}
	if x := a.Go(r); x != modelGo(c, r) {
		t.Fatalf("of %s\nGo(%s): %t", show(c), show(r), x)
	}
}

// The chapter's sentences, one behind the other, in one function a number, and nothing kept from one request to the next.

type handler func(h api.Handler, a api.Asked, s *shelf.Shelf) api.Response

func modelNow(c api.Config) int {
	if c.Date == -1 {
		return 0
	}
	return c.Date
}

// model1to4 is what comes back by the first four steps, and the place of the route that was found.
func model1to4(c api.Config, r api.Request, asked handler) (api.Response, int) {
	found := -1
	if _, _, err := target.Parse(r.Method, r.Target); err != api.OK {
		return chain.Plain(400, nil), found
	}
	table, _, _ := route.New(c.Routes, c.Slash)
	files, _, _ := shelf.New(c.Files)
	x := chain.Run(c.Middles, r, func(r api.Request) api.Response {
		t, _, _ := target.Parse(r.Method, r.Target)
		if t.Form == api.FormAsterisk {
			return api.Response{Status: 204, Fields: fields("Allow", strings.Join(table.All(), ", "))}
		}
		if t.Form == api.FormAuthority {
			return chain.Plain(501, nil)
		}
		path, _ := target.Normal(t.Path)
		m := table.Match(r.Method, path)
		allow := fields("Allow", strings.Join(m.Allow, ", "))
		switch m.Kind {
		case api.MatchNone:
			return chain.Plain(404, nil)
		case api.MatchMethod:
			return chain.Plain(405, allow)
		case api.MatchOptions:
			return api.Response{Status: 204, Fields: allow}
		case api.MatchSlash:
			_, query, _ := strings.Cut(r.Target, "?")
			if strings.Contains(r.Target, "?") {
				query = "?" + query
			}
			return chain.Plain(308, fields("Location", m.To+query))
		}
		found = m.Route
		return chain.Run(c.Routes[found].Middles, r, func(r api.Request) api.Response {
			t, _, _ := target.Parse(r.Method, r.Target)
			return asked(c.Routes[found].Handler, api.Asked{Request: r, Target: t, Params: m.Params, Now: modelNow(c)}, files)
		})
	})
	return x, found
}

func modelState(x api.Response, now int) api.State {
	s := api.State{There: true}
	if l := field.All(x.Fields, "etag"); len(l) == 1 {
		if t, _, err := tag.Parse(l[0]); err == api.OK {
			s.Tag, s.Tagged = t, true
		}
	}
	if l := field.All(x.Fields, "last-modified"); len(l) == 1 {
		if m, _, err, _ := stamp.Parse(l[0], now); err == api.OK {
			s.Time, s.Timed = m, true
		}
	}
	return s
}

// without is fields but for those of some names.
func without(l []api.Field, names ...string) []api.Field {
	var left []api.Field
	for _, f := range l {
		if !slices.ContainsFunc(names, func(name string) bool { return strings.EqualFold(name, f.Name) }) {
			left = append(left, f)
		}
	}
	return left
}

func model5(x api.Response, r api.Request, now int) api.Response {
	if x.Status != 200 || r.Method != "GET" && r.Method != "HEAD" {
		return x
	}
	switch tag.Decide(r.Method, r.Fields, modelState(x, now), now) {
	case 304:
		return api.Response{Status: 304, Fields: without(x.Fields, "content-type", "content-length", "content-encoding", "content-language", "accept-ranges")}
	case 412:
		l := fields("Content-Type", "text/plain; charset=utf-8")
		for _, name := range []string{"etag", "last-modified"} {
			for _, f := range x.Fields {
				if strings.EqualFold(f.Name, name) {
					l = append(l, f)
				}
			}
		}
		return api.Response{Status: 412, Fields: l, Body: "Precondition Failed\n"}
	}
	return x
}

// model6 marks the bytes that are asked for, one by one, and reads the spans off the marks.
func model6(x api.Response, r api.Request, now int) api.Response {
	by, _ := field.Find(x.Fields, "accept-ranges")
	asked := field.All(r.Fields, "range")
	if x.Status != 200 || r.Method != "GET" || by != "bytes" || len(asked) != 1 || !tag.Ranged(r.Fields, modelState(x, now), now) {
		return x
	}
	spans, err := span.Parse(asked[0], len(x.Body))
	if err == api.ErrUnit {
		return x
	}
	if err == api.ErrSpan {
		return chain.Plain(416, fields("Content-Range", fmt.Sprintf("bytes */%d", len(x.Body))))
	}
	marks := make([]bool, len(x.Body)+1)
	for _, s := range spans {
		for i := s.From; i < s.To; i++ {
			marks[i] = true
		}
	}
	var l []api.Span
	unmarked := 0
	for i := range len(x.Body) {
		switch {
		case !marks[i]:
			unmarked++
		case i == 0 || !marks[i-1]:
			l = append(l, api.Span{From: i, To: i + 1})
		default:
			l[len(l)-1].To = i + 1
		}
	}
	if len(l) > 16 || unmarked == 0 {
		return x
	}
	if len(l) == 1 {
		where := fmt.Sprintf("bytes %d-%d/%d", l[0].From, l[0].To-1, len(x.Body))
		return api.Response{Status: 206, Fields: slices.Concat(x.Fields, fields("Content-Range", where)), Body: x.Body[l[0].From:l[0].To]}
	}
	media, has := field.Find(x.Fields, "content-type")
	if !has {
		media = "application/octet-stream"
	}
	boundary := span.Boundary(x.Body)
	body := ""
	for _, s := range l {
		body += fmt.Sprintf("\r\n--%s\r\nContent-Type: %s\r\nContent-Range: bytes %d-%d/%d\r\n\r\n%s", boundary, media, s.From, s.To-1, len(x.Body), x.Body[s.From:s.To])
	}
	body += "\r\n--" + boundary + "--\r\n"
	return api.Response{Status: 206, Fields: slices.Concat(without(x.Fields, "content-type"), fields("Content-Type", "multipart/byteranges; boundary="+boundary)), Body: body}
}

func model7(x api.Response, c api.Config) api.Response {
	if _, has := field.Find(x.Fields, "date"); !has && c.Date != -1 {
		date, _ := stamp.Print(c.Date)
		x.Fields = slices.Concat(x.Fields, fields("Date", date))
	}
	if _, has := field.Find(x.Fields, "server"); !has && c.Name != "" {
		x.Fields = slices.Concat(x.Fields, fields("Server", c.Name))
	}
	return x
}

func model8(c api.Config, r api.Request, n int, x api.Response, place int) api.Answer {
	a := api.Answer{Response: x, Route: place}
	if x.Status == 101 {
		a.Upgrade = true
		return a
	}
	a.Close = !field.Persist(r.Fields, r.Minor == 0) || c.Requests != 0 && n == c.Requests ||
		slices.Contains([]int{400, 408, 413, 414, 431, 500, 505}, x.Status)
	return a
}

// modelBytes is the answer as bytes, and the answer.
func modelBytes(c api.Config, r api.Request, n int) (string, api.Answer) {
	x, place := model1to4(c, r, handle.Answer)
	now := modelNow(c)
	a := model8(c, r, n, model7(model6(model5(x, r, now), r, now), c), place)
	s, err := message.Print(a.Response, api.Manner{Method: r.Method, Close: a.Close, Old: r.Minor == 0})
	if err != api.OK {
		a = api.Answer{Response: model7(chain.Plain(500, nil), c), Close: true, Route: place}
		s, _ = message.Print(a.Response, api.Manner{Method: r.Method, Close: true, Old: r.Minor == 0})
	}
	return s, a
}

func modelGo(c api.Config, r api.Request) bool {
	r.Body = ""
	x, _ := model1to4(c, r, func(api.Handler, api.Asked, *shelf.Shelf) api.Response { return api.Response{Status: 200} })
	return x.Status < 400
}
