package chain_test

import (
	"encoding/base64"
	"fmt"
	"net/netip"
	"net/url"
	"regexp"
	"slices"
	"strings"
	"testing"

	"turnpike/api"
	"turnpike/chain"
	"turnpike/message"
	"turnpike/target"
)

// The words of the chapter as patterns over bytes, apart from the program's own.
const (
	tokenText  = "[!#$%&'*+.^_`|~0-9A-Za-z-]+"
	fieldText  = `[\t\x20-\x7e\x{80}-\x{ff}]*`
	signText   = `[A-Za-z0-9._~!$&'()*+,;=:@-]`
	tripleText = `%[0-9A-F]{2}`
)

var (
	tokenAll   = regexp.MustCompile(`\A` + tokenText + `\z`)
	tokensAll  = regexp.MustCompile(`\A(?:` + tokenText + `(?:, ` + tokenText + `)*)?\z`)
	fieldAll   = regexp.MustCompile(`\A` + fieldText + `\z`)
	blankEnds  = regexp.MustCompile(`\A[\t ]|[\t ]\z`)
	pathAll    = regexp.MustCompile(`\A(?:/(?:` + signText + `|` + tripleText + `)*)+\z`)
	triple     = regexp.MustCompile(tripleText)
	unreserved = regexp.MustCompile(`\A[A-Za-z0-9._~-]\z`)
	dots       = regexp.MustCompile(`/\.\.?(?:/|\z)`)
	loginAll   = regexp.MustCompile(`\A[^:\x00-\x1f\x7f]+:[^\x00-\x1f\x7f]*\z`)
	originAll  = regexp.MustCompile(`\A[\x21-\x2b\x2d-\x7e\x{80}-\x{ff}]+\z`)
	hostAll    = regexp.MustCompile(`\A(?:(?:[a-z0-9._~!$&'()*+,;=-]|%[0-9a-f]{2})+|\[[0-9a-f:.]+\]):?\z`)
	placeAll   = regexp.MustCompile(`\A((?i:http)://[^/?]*)?(/[^?]*)(\?.*)?\z`)
	basicAll   = regexp.MustCompile(`\A(?i:basic) +([^ ]*)\z`)
)

// show is what is told of something that is not as it must be; not all, if it is long.
func show(x any) string { return fmt.Sprintf("%.400q", fmt.Sprintf("%+v", x)) }

// texts goes over all texts of at most so many pieces, each of them out of the list.
func texts(pieces []string, most int) func(yield func(string) bool) {
	return func(yield func(string) bool) {
		level := []string{""}
		for n := 0; ; n++ {
			for _, s := range level {
				if !yield(s) {
					return
				}
			}
			if n == most {
				return
			}
			var next []string
			for _, s := range level {
				for _, p := range pieces {
					next = append(next, s+p)
				}
			}
			level = next
		}
	}
}

// everyByte is all bytes, each as a text.
func everyByte() []string {
	var l []string
	for c := range 256 {
		l = append(l, string([]byte{byte(c)}))
	}
	return l
}

// meets is whether a pattern takes a text, byte by byte.
func meets(pattern *regexp.Regexp, s string) bool {
	var b strings.Builder
	for _, c := range []byte(s) {
		b.WriteRune(rune(c))
	}
	return pattern.MatchString(b.String())
}

// list is a list of texts, as elements want it.
func list(l ...string) []string { return l }

// fields is a list of fields from names and values that alternate.
func fields(l ...string) []api.Field {
	var all []api.Field
	for i := 0; i+1 < len(l); i += 2 {
		all = append(all, api.Field{Name: l[i], Value: l[i+1]})
	}
	return all
}

// plain is a response that an element makes itself; its body is told without the line feed.
func plain(status int, body string, further ...string) api.Response {
	l := append(fields("Content-Type", "text/plain; charset=utf-8"), fields(further...)...)
	return api.Response{Status: status, Fields: l, Body: body + "\n"}
}

// modelPlain is that by the reason that the status has.
func modelPlain(status int, further ...string) api.Response {
	return plain(status, message.Reason(status), further...)
}

// with is a response with fields more behind.
func with(x api.Response, further ...string) api.Response {
	x.Fields = append(slices.Clone(x.Fields), fields(further...)...)
	return x
}

func same(a, b api.Response) bool {
	return a.Status == b.Status && a.Reason == b.Reason && a.Body == b.Body && slices.Equal(a.Fields, b.Fields)
}

func sameRequest(a, b api.Request) bool {
	return a.Method == b.Method && a.Target == b.Target && a.Major == b.Major && a.Minor == b.Minor &&
		a.Body == b.Body && slices.Equal(a.Fields, b.Fields) && slices.Equal(a.Trailers, b.Trailers)
}

// handler answers the same to all, and keeps what it was asked.
type handler struct {
	response api.Response
	asked    []api.Request
}

func (h *handler) answer(r api.Request) api.Response {
	h.asked = append(h.asked, r)
	return h.response
}

// thanks is a response with something in each place, as a last handler may answer it.
func thanks(further ...string) api.Response {
	l := append(fields("A", "1", "Vary", "x", "a", "2"), fields(further...)...)
	return api.Response{Status: 200, Reason: "Thanks", Fields: l, Body: "b\x00\xff"}
}

// checkOn runs a chain that hands a request on: what last is asked then, and what comes back.
func checkOn(t *testing.T, l []api.Middle, r api.Request, asked api.Request, answer, want api.Response) {
	t.Helper()
	h := &handler{response: answer}
	if x := chain.Run(l, r, h.answer); !same(x, want) {
		t.Errorf("Run(%s, %s): %s, wanted %s", show(l), show(r), show(x), show(want))
	}
	if len(h.asked) != 1 || !sameRequest(h.asked[0], asked) {
		t.Errorf("Run(%s, %s) asked %s, wanted %s", show(l), show(r), show(h.asked), show(asked))
	}
}

// checkThrough runs an element that lets a request through, and does no more.
func checkThrough(t *testing.T, m api.Middle, r api.Request) {
	t.Helper()
	checkOn(t, []api.Middle{m}, r, r, thanks(), thanks())
}

// checkAnswered runs an element that answers a request itself.
func checkAnswered(t *testing.T, m api.Middle, r api.Request, want api.Response) {
	t.Helper()
	h := &handler{response: thanks()}
	if x := chain.Run([]api.Middle{m}, r, h.answer); !same(x, want) || len(h.asked) > 0 {
		t.Errorf("Run(%s, %s): %s, wanted %s; last was asked %s", show(m), show(r), show(x), show(want), show(h.asked))
	}
}

// modelCheck is 19.1, row by row of the chapter's table.
func modelCheck(m api.Middle) bool {
	noName, noValue, noList, noN := m.Name == "", m.Value == "", len(m.List) == 0, m.N == 0
	token := meets(tokenAll, m.Name)
	value := meets(fieldAll, m.Value) && !blankEnds.MatchString(m.Value) && len(m.Value) <= 8192
	switch m.Kind {
	case 1, 2:
		return token && value && noList && noN
	case 3:
		return token && noValue && noList && noN
	case 4:
		return noName && noValue && noN && modelMethods(m.List)
	case 5:
		return noName && noValue && noList && m.N > -1
	case 6:
		return noName && noList && noN && modelNormal(m.Value) && m.Value[len(m.Value)-1] != '/'
	case 7:
		return noValue && noN && meets(fieldAll, m.Name) && modelAll(m.List, loginAll)
	case 8:
		all := slices.Equal(m.List, list("*"))
		return noName && m.N > -1 && meets(tokensAll, m.Value) &&
			(all || modelAll(m.List, originAll) && !slices.Contains(m.List, "*"))
	case 9:
		return noName && noList && noN && value && !noValue
	case 10:
		return noName && noValue && noN && modelAll(m.List, hostAll) && modelAddresses(m.List)
	}
	return false
}

// modelAll is whether there are texts, and a pattern takes each.
func modelAll(l []string, pattern *regexp.Regexp) bool {
	for _, s := range l {
		if !meets(pattern, s) {
			return false
		}
	}
	return len(l) > 0
}

func modelMethods(l []string) bool {
	for i, s := range l {
		if slices.Contains(l[:i], s) {
			return false
		}
	}
	return modelAll(l, tokenAll)
}

// modelNormal is whether a text is a path of which the normal form is itself.
func modelNormal(s string) bool {
	for _, t := range triple.FindAllString(s, -1) {
		if said, _ := url.PathUnescape(t); unreserved.MatchString(said) {
			return false
		}
	}
	return meets(pathAll, s) && !dots.MatchString(s)
}

func modelAddresses(l []string) bool {
	for _, s := range l {
		s = strings.TrimSuffix(s, ":")
		if strings.HasPrefix(s, "[") {
			if _, err := netip.ParseAddr(s[1 : len(s)-1]); err != nil || !strings.Contains(s, ":") {
				return false
			}
		}
	}
	return true
}

// valuesOf is the values of all fields of a name, in whatever case.
func valuesOf(l []api.Field, name string) []string {
	var all []string
	for _, f := range l {
		if strings.EqualFold(f.Name, name) {
			all = append(all, f.Value)
		}
	}
	return all
}

// modelRun is 19.2: an element, and behind it the rest of the list.
func modelRun(l []api.Middle, r api.Request, last func(api.Request) api.Response) api.Response {
	if len(l) == 0 && last == nil {
		return modelPlain(404)
	}
	if len(l) == 0 {
		return last(r)
	}
	next := func(r api.Request) api.Response { return modelRun(l[1:], r, last) }
	m := l[0]
	if !modelCheck(m) {
		return next(r)
	}
	switch m.Kind {
	case 1:
		return with(next(r), m.Name, m.Value)
	case 2:
		return with(modelDrop(next(r), m.Name), m.Name, m.Value)
	case 3:
		return modelDrop(next(r), m.Name)
	case 8:
		return modelOrigin(m, r, next)
	case 9:
		x := next(r)
		if (x.Status == 200 || x.Status == 304) && (r.Method == "GET" || r.Method == "HEAD") && valuesOf(x.Fields, "Cache-Control") == nil {
			x = with(x, "Cache-Control", m.Value)
		}
		return x
	}
	on, refusal := modelGuard(m, r)
	if refusal.Status != 0 {
		return refusal
	}
	return next(on)
}

func modelDrop(x api.Response, name string) api.Response {
	x.Fields = slices.DeleteFunc(slices.Clone(x.Fields), func(f api.Field) bool { return strings.EqualFold(f.Name, name) })
	return x
}

// modelGuard is the elements that answer, or hand a request on: the request, and the response, if there is one.
func modelGuard(m api.Middle, r api.Request) (api.Request, api.Response) {
	switch {
	case m.Kind == 4 && !slices.Contains(m.List, r.Method):
		return r, modelPlain(405, "Allow", strings.Join(m.List, ", "))
	case m.Kind == 5 && len(r.Body) > m.N:
		return r, modelPlain(413)
	case m.Kind == 6:
		return modelStrip(m, r)
	case m.Kind == 7 && !modelKnown(m, r):
		realm := strings.NewReplacer(`"`, `\"`, `\`, `\\`).Replace(m.Name)
		return r, modelPlain(401, "WWW-Authenticate", `Basic realm="`+realm+`", charset="UTF-8"`)
	case m.Kind == 10 && !modelAt(m, r):
		return r, modelPlain(421)
	}
	return r, api.Response{}
}

func modelStrip(m api.Middle, r api.Request) (api.Request, api.Response) {
	_, _, err := target.Parse(r.Method, r.Target)
	found := placeAll.FindStringSubmatch(r.Target)
	if err != api.OK || r.Method == "CONNECT" || found == nil || !strings.HasPrefix(found[2]+"/", m.Value+"/") {
		return r, modelPlain(404)
	}
	path := found[2][len(m.Value):]
	if path == "" {
		path = "/"
	}
	r.Target = found[1] + path + found[3]
	return r, api.Response{}
}

func modelKnown(m api.Middle, r api.Request) bool {
	values := valuesOf(r.Fields, "authorization")
	if len(values) != 1 {
		return false
	}
	found := basicAll.FindStringSubmatch(values[0])
	return found != nil && slices.ContainsFunc(m.List, func(s string) bool {
		return base64.StdEncoding.EncodeToString([]byte(s)) == found[1]
	})
}

func modelAt(m api.Middle, r api.Request) bool {
	place, _, err := target.Parse(r.Method, r.Target)
	host := place.Host
	if err != api.OK || place.Form != 2 {
		values := valuesOf(r.Fields, "host")
		if len(values) != 1 {
			return false
		}
		host, _, err = target.Authority(values[0])
		if err != api.OK {
			return false
		}
	}
	return slices.Contains(m.List, host)
}

// modelOrigin is the chapter's rules between origins, sentence by sentence.
func modelOrigin(m api.Middle, r api.Request, next func(api.Request) api.Response) api.Response {
	all := m.List[0] == "*"
	varies := list("Vary", "Origin")
	if all {
		varies = nil
	}
	origin := valuesOf(r.Fields, "Origin")
	if len(origin) != 1 || !all && !slices.Contains(m.List, origin[0]) {
		return with(next(r), varies...)
	}
	allow := list("Access-Control-Allow-Origin", origin[0])
	if all {
		allow[1] = "*"
	}
	methods := valuesOf(r.Fields, "Access-Control-Request-Method")
	if r.Method != "OPTIONS" || len(methods) != 1 {
		return with(next(r), slices.Concat(allow, varies)...)
	}
	if m.Value != "" {
		methods[0] = m.Value
	}
	x := with(api.Response{Status: 204}, allow...)
	x = with(x, "Access-Control-Allow-Methods", methods[0])
	if names := valuesOf(r.Fields, "Access-Control-Request-Headers"); names != nil {
		x = with(x, "Access-Control-Allow-Headers", strings.Join(names, ", "))
	}
	x = with(x, "Access-Control-Max-Age", fmt.Sprint(m.N))
	return with(x, varies...)
}
